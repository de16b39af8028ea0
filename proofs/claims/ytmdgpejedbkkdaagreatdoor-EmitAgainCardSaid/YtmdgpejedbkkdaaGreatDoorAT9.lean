/- NamRd, NodMem, EmiIter, NamRsame, ShelfS, NamInP -/
import Derived.Below
import Derived.BigQuiet
import Derived.ChangeAlike
import Derived.Deep.LoopGhost
import Derived.Deep.QuietTactic
import Derived.Laws.OwnMore
import Derived.Lib.Hide
import Derived.Lib.OwnBridge
import Derived.LoopIn
import Derived.LoopNIn
import Derived.OwnWalkIn
import Derived.ProofKit
import Derived.RangeFuncBound
import Derived.RangeFuncLeaves
import Derived.RangeFuncNested
import Derived.RegionTactic
import Derived.Shelf.Abstract
import Derived.Shelf.Lay
import Derived.Shelf.Slices.CompactS
import Derived.Shelf.Slices.In.SortNone
import Derived.Shelf.Slices.Turned
import Derived.Shelf.Small.Strs
import Derived.Shelf.Sort.Plain
import Derived.Shelf.Spec.SlicesGrow
import Derived.SliceStrings
import Derived.Sort.OwnSorted
import Derived.TacticsInMore
import Derived.Test.YtmdgpejedbkkdaaGreatDoorAT2
import Derived.Test.YtmdgpejedbkkdaaGreatDoorProg
import Derived.Test.YtmdgpejedbkkdaaGreatDoorRows
import Derived.WalkKit
set_option linter.unusedVariables false
set_option linter.unusedSimpArgs false
set_option maxRecDepth 100000
set_option maxHeartbeats 16000000
open Go.Lib (hid)
namespace Go.Proofs.YtmdgpejedbkkdaaGreatDoor
section
open Go.RowKit Go.Sort Go.Lib
open Nw
def ba (x : L8) : ByteArray := ⟨x.toArray⟩
theorem ba_data (x : L8) : (ba x).data.toList = x := by simp [ba]
theorem ba_list (x : L8) : (ba x).toList = x := by rw [ByteArray.toList_eq, ba_data]
theorem ba_of (s : ByteArray) : ba s.data.toList = s := by cases s; simp [ba]
def Rd (w : World) (v : Value) (l : List L8) : Prop :=
 ∃ (a : Option Addr) (cap : Nat), v = .slice a l.length cap ∧ l.length ≤ cap ∧ cap ≤ maxLen ∧
  ((l = [] ∧ (a = none → cap = 0)) ∨ ∃ b o, a = some ⟨b, o, none⟩ ∧ b < w.heap.size ∧ ∀ j (h : j < l.length), w.cell? ⟨b, o + j, none⟩ = some (.string (ba l[j])))
theorem Rd.below {w w' : World} {v : Value} {l : List L8} (h : Rd w v l) (hb : Below w.heap.size w w') : Rd w' v l := by
 obtain ⟨a, cap, rfl, h1, h2, h3⟩ := h
 refine ⟨a, cap, rfl, h1, h2, ?_⟩
 rcases h3 with h3 | ⟨b, o, rfl, h4, h5⟩
 ·exact .inl h3
 ·exact .inr ⟨b, o, rfl, Nat.lt_of_lt_of_le h4 hb.size, fun j hj => (hb.cell (p := ⟨b, o + j, none⟩) h4).trans (h5 j hj)⟩
theorem Rd.cases {w : World} {v : Value} {l : List L8} (h : Rd w v l) :
  (∃ a cap, v = .slice a 0 cap ∧ l = [] ∧ cap ≤ maxLen ∧ (a = none → cap = 0)) ∨ (∃ b o cap, v = .slice (some ⟨b, o, none⟩) l.length cap ∧ l.length ≤ cap ∧ cap ≤ maxLen ∧ b < w.heap.size ∧ ∀ j (h : j < l.length), w.cell? ⟨b, o + j, none⟩ = some (.string (ba l[j]))) := by
 obtain ⟨a, cap, rfl, h1, h2, h3⟩ := h
 rcases h3 with ⟨rfl, hn⟩ | ⟨b, o, rfl, h4, h5⟩
 ·exact .inl ⟨a, cap, rfl, rfl, h2, hn⟩
 ·exact .inr ⟨b, o, cap, rfl, h1, h2, h4, h5⟩
theorem rd_empty (w : World) (a : Option Addr) (cap : Nat) (h : cap ≤ maxLen) (hn : a = none → cap = 0) : Rd w (.slice a 0 cap) [] := ⟨a, cap, rfl, Nat.zero_le _, h, .inl ⟨rfl, hn⟩⟩
theorem rd_of_owns {w : World} {base n : Nat} {e : TypeId} {v : Value} {l : List L8} (h : w.ownsRow base e 1 v n (l.map encStr)) : Rd w v l := by
 have hl : l.length = n := by simpa using h.1
 by_cases hv : v = .slice none 0 0
 ·subst hv
  rcases h.2 with ⟨_, h0⟩ | ⟨g, cap, cur, h0, _⟩
  ·obtain rfl : l = [] := List.length_eq_zero_iff.1 (by omega)
   exact rd_empty w none 0 (Nat.zero_le _) fun _ => rfl
  ·cases h0
 ·obtain ⟨g, cap, rfl, _, hg, h1, h2, _, hH⟩ := holds_of_ownsRow h hv
  subst hl
  refine ⟨_, cap, rfl, h1, h2, .inr ⟨g, 0, rfl, hg, fun j hj => ?_⟩⟩
  have := (hH j (by simpa using hj)).1
  rw [getElem!_pos l.toArray j (by simpa using hj)] at this
  have h2 : w.cell? ⟨g, 0 + j, none⟩ = some (encStr l[j]) := by simpa using this
  exact h2
theorem map_ba (l : List L8) (j : Nat) (h : j < (l.map ba).length) : (l.map ba).getD j ByteArray.empty = ba (l[j]'(by simpa using h)) := by
 rw [List.getD_eq_getElem?_getD, List.getElem?_eq_getElem h]; simp
theorem below_drewN (w : World) (q : Nat) : Below w.heap.size w (w.drewN q) := ⟨rfl, rfl, rfl, Nat.le_refl _, fun _ _ => rfl⟩
end
section
open Go.RowKit Go.Sort
open Nw N8 Go.ChangeShapes Go.WideShapes
def RdS (S : Nat → Prop) (w : World) (v : Value) (l : List L8) : Prop :=
 ∃ (a : Option Addr) (cap : Nat), v = .slice a l.length cap ∧ l.length ≤ cap ∧ cap ≤ maxLen ∧
  ((l = [] ∧ (a = none → cap = 0)) ∨ ∃ b o, a = some ⟨b, o, none⟩ ∧ S b ∧ ∀ j (h : j < l.length), w.cell? ⟨b, o + j, none⟩ = some (.string (ba l[j])))
theorem RdS.keep {S T : Nat → Prop} {w w' : World} {v : Value} {l : List L8} (h : RdS S w v l) (hk : ∀ b, S b → T b ∧ w'.heap[b]? = w.heap[b]?) : RdS T w' v l := by
 obtain ⟨a, cap, rfl, h1, h2, h3⟩ := h
 refine ⟨a, cap, rfl, h1, h2, ?_⟩
 rcases h3 with h3 | ⟨b, o, rfl, h4, h5⟩
 ·exact .inl h3
 ·exact .inr ⟨b, o, rfl, (hk b h4).1, fun j hj => (World.cell?_of_block (hk b h4).2).trans (h5 j hj)⟩
mutual
def NdC (S : Nat → Prop) (w : World) : Nd → Value → Value → Value → Value → Prop
 | .mk k t ks ds, c0, c1, c2, c3 => c0 = .int .i64 k ∧ c1 = .string (ba t) ∧ RdS S w c2 ks ∧
   ∃ (A : Option Addr) (cap : Nat), c3 = .slice A ds.length cap ∧ ds.length ≤ cap ∧ cap ≤ maxLen ∧ (A = none → cap = 0) ∧ NdK S w ds A 0
def NdK (S : Nat → Prop) (w : World) : List Nd → Option Addr → Nat → Prop
 | [], _, _ => True
 | d :: ds, A, i => (∃ (b o : Nat) (c0 c1 c2 c3 : Value), A = some ⟨b, o, none⟩ ∧ S b ∧ w.cell? ⟨b, o + i * 4, none⟩ = some c0 ∧ w.cell? ⟨b, o + i * 4 + 1, none⟩ = some c1 ∧
   w.cell? ⟨b, o + i * 4 + 2, none⟩ = some c2 ∧ w.cell? ⟨b, o + i * 4 + 3, none⟩ = some c3 ∧ NdC S w d c0 c1 c2 c3) ∧ NdK S w ds A (i + 1)
end
mutual
theorem NdC.keep {S T : Nat → Prop} {w w' : World} (hk : ∀ b, S b → T b ∧ w'.heap[b]? = w.heap[b]?) : ∀ (d : Nd) {c0 c1 c2 c3 : Value}, NdC S w d c0 c1 c2 c3 → NdC T w' d c0 c1 c2 c3
 | .mk k t ks ds, c0, c1, c2, c3, h => by
  rw [NdC] at h ⊢
  obtain ⟨h0, h1, h2, A, cap, h3, h4, h5, h6, h7⟩ := h
  exact ⟨h0, h1, h2.keep hk, A, cap, h3, h4, h5, h6, NdK.keep hk ds h7⟩
theorem NdK.keep {S T : Nat → Prop} {w w' : World} (hk : ∀ b, S b → T b ∧ w'.heap[b]? = w.heap[b]?) : ∀ (ds : List Nd) {A : Option Addr} {i : Nat}, NdK S w ds A i → NdK T w' ds A i
 | [], A, i, _ => by rw [NdK]; trivial
 | d :: ds, A, i, h => by
  rw [NdK] at h ⊢
  obtain ⟨⟨b, o, c0, c1, c2, c3, hA, hS, e0, e1, e2, e3, hd⟩, hds⟩ := h
  exact ⟨⟨b, o, c0, c1, c2, c3, hA, (hk b hS).1, (World.cell?_of_block (hk b hS).2).trans e0, (World.cell?_of_block (hk b hS).2).trans e1, (World.cell?_of_block (hk b hS).2).trans e2, (World.cell?_of_block (hk b hS).2).trans e3, NdC.keep hk d hd⟩, NdK.keep hk ds hds⟩
end
theorem NdK.at_ {S : Nat → Prop} {w : World} : ∀ {ds : List Nd} {A : Option Addr} {i : Nat}, NdK S w ds A i → ∀ (j : Nat) (h : j < ds.length),
  ∃ (b o : Nat) (c0 c1 c2 c3 : Value), A = some ⟨b, o, none⟩ ∧ S b ∧ w.cell? ⟨b, o + (i + j) * 4, none⟩ = some c0 ∧ w.cell? ⟨b, o + (i + j) * 4 + 1, none⟩ = some c1 ∧
   w.cell? ⟨b, o + (i + j) * 4 + 2, none⟩ = some c2 ∧ w.cell? ⟨b, o + (i + j) * 4 + 3, none⟩ = some c3 ∧ NdC S w (ds[j]'h) c0 c1 c2 c3
 | d :: ds, A, i, h, 0, _ => by rw [NdK] at h; exact h.1
 | d :: ds, A, i, h, j + 1, hj => by
  rw [NdK] at h
  have := NdK.at_ h.2 j (Nat.lt_of_succ_lt_succ hj)
  rw [show i + (j + 1) = i + 1 + j by omega]
  exact this
theorem ndK_of {S : Nat → Prop} {w : World} {A : Option Addr} : ∀ (ds : List Nd) (i : Nat), (∀ (j : Nat) (h : j < ds.length),
  ∃ (b o : Nat) (c0 c1 c2 c3 : Value), A = some ⟨b, o, none⟩ ∧ S b ∧ w.cell? ⟨b, o + (i + j) * 4, none⟩ = some c0 ∧ w.cell? ⟨b, o + (i + j) * 4 + 1, none⟩ = some c1 ∧
   w.cell? ⟨b, o + (i + j) * 4 + 2, none⟩ = some c2 ∧ w.cell? ⟨b, o + (i + j) * 4 + 3, none⟩ = some c3 ∧ NdC S w (ds[j]'h) c0 c1 c2 c3) → NdK S w ds A i
 | [], i, _ => by rw [NdK]; trivial
 | d :: ds, i, h => by
  rw [NdK]
  refine ⟨h 0 (Nat.succ_pos _), ndK_of ds (i + 1) fun j hj => ?_⟩
  have := h (j + 1) (Nat.succ_lt_succ hj)
  rw [show i + 1 + j = i + (j + 1) by omega]
  exact this
def NdW (w : World) (d : Nd) (c0 c1 c2 c3 : Value) : Prop := NdC (· < w.heap.size) w d c0 c1 c2 c3
theorem NdW.below {w w' : World} {d : Nd} {c0 c1 c2 c3 : Value} (h : NdW w d c0 c1 c2 c3) (hb : Below w.heap.size w w') : NdW w' d c0 c1 c2 c3 :=
 NdC.keep (fun b hlt => ⟨Nat.lt_of_lt_of_le hlt hb.size, hb.block b hlt⟩) d h
theorem NdW.parts {w : World} {k : Int} {t : L8} {ks : List L8} {ds : List Nd} {c0 c1 c2 c3 : Value} (h : NdW w (.mk k t ks ds) c0 c1 c2 c3) :
  c0 = .int .i64 k ∧ c1 = .string (ba t) ∧ Rd w c2 ks ∧ ∃ (A : Option Addr) (cap : Nat), c3 = .slice A ds.length cap ∧ ds.length ≤ cap ∧ cap ≤ maxLen ∧ (A = none → cap = 0) ∧
   ∀ (j : Nat) (h : j < ds.length), ∃ (b o : Nat) (e0 e1 e2 e3 : Value), A = some ⟨b, o, none⟩ ∧ b < w.heap.size ∧ w.cell? ⟨b, o + j * 4, none⟩ = some e0 ∧ w.cell? ⟨b, o + j * 4 + 1, none⟩ = some e1 ∧
    w.cell? ⟨b, o + j * 4 + 2, none⟩ = some e2 ∧ w.cell? ⟨b, o + j * 4 + 3, none⟩ = some e3 ∧ NdW w (ds[j]'h) e0 e1 e2 e3 := by
 unfold NdW at h
 rw [NdC] at h
 obtain ⟨h0, h1, h2, A, cap, h3, h4, h5, h6, h7⟩ := h
 refine ⟨h0, h1, h2, A, cap, h3, h4, h5, h6, fun j hj => ?_⟩
 have := NdK.at_ h7 j hj
 rw [Nat.zero_add] at this
 exact this
theorem cell_lt {W : World} {p : Addr} {v : Value} (h : W.cell? p = some v) : p.block < W.heap.size := by
 rcases Nat.lt_or_ge p.block W.heap.size with h1 | h1
 ·exact h1
 ·have : W.heap[p.block]? = none := Array.getElem?_eq_none h1
  simp [World.cell?, this] at h
section
variable {H : Type} {enc : TypeId × Value → H} {W : World} {base : Nat} {spare : Nat → Bool} {held : Bool}
end
end
section
open Go.RowKit
open Nw N8
def rowOf (t : TypeId) : Obj → Bool
 | .cells _ t' _ => t' == t
 | _ => false
structure Turned (t : TypeId) (B : Nat) (W W' : World) : Prop where
 os : W'.os = W.os
 tape : W'.tape = W.tape
 output : W'.output = W.output
 size : W.heap.size ≤ W'.heap.size
 same : ∀ (k : Nat) (o : Obj), W.heap[k]? = some o → (k < B ∨ rowOf t o = true) → W'.heap[k]? = some o
structure Kept (t : TypeId) (n0 C B : Nat) (W W' : World) : Prop where
 os : W'.os = W.os
 tape : W'.tape = W.tape
 output : W'.output = W.output
 size : W.heap.size ≤ W'.heap.size
 same : ∀ (k : Nat) (o : Obj), W.heap[k]? = some o → (k < n0 ∨ (C ≤ k ∧ o.isCells = true ∧ rowOf t o = false) ∨ (B ≤ k ∧ rowOf t o = false)) → W'.heap[k]? = some o
theorem Turned.refl (t : TypeId) (B : Nat) (W : World) : Turned t B W W := ⟨rfl, rfl, rfl, Nat.le_refl _, fun _ _ h _ => h⟩
theorem Turned.trans {t : TypeId} {B : Nat} {W1 W2 W3 : World} (h : Turned t B W1 W2) (k : Turned t B W2 W3) : Turned t B W1 W3 :=
 ⟨k.os.trans h.os, k.tape.trans h.tape, k.output.trans h.output, Nat.le_trans h.size k.size, fun i o hi ho => k.same i o (h.same i o hi ho) ho⟩
theorem Turned.mono {t : TypeId} {B B' : Nat} {W1 W2 : World} (h : Turned t B W1 W2) (hb : B' ≤ B) : Turned t B' W1 W2 :=
 ⟨h.os, h.tape, h.output, h.size, fun k o hk ho => h.same k o hk (ho.elim (fun e => .inl (Nat.lt_of_lt_of_le e hb)) .inr)⟩
theorem below_same {n : Nat} {W W' : World} (h : Below n W W') {k : Nat} {o : Obj} (hk : k < n) (ho : W.heap[k]? = some o) : W'.heap[k]? = some o := (h.block k hk).trans ho
theorem lt_of_heap {W : World} {k : Nat} {o : Obj} (h : W.heap[k]? = some o) : k < W.heap.size := (Array.getElem?_eq_some_iff.1 h).1
theorem Turned.of_below {t : TypeId} {B : Nat} {W W' : World} (h : Below W.heap.size W W') : Turned t B W W' :=
 ⟨h.os, h.tape, h.output, h.size, fun k o hk _ => below_same h (lt_of_heap hk) hk⟩
theorem Kept.of_below {t : TypeId} {n0 C B : Nat} {W W' : World} (h : Below W.heap.size W W') : Kept t n0 C B W W' :=
 ⟨h.os, h.tape, h.output, h.size, fun k o hk _ => below_same h (lt_of_heap hk) hk⟩
theorem below_alloc (W : World) (o : Obj) : Below W.heap.size W (W.alloc o) := (Below.refl _ W).alloc (Nat.le_refl _) _
theorem Turned.alloc (t : TypeId) (B : Nat) (W : World) (o : Obj) : Turned t B W (W.alloc o) := .of_below (below_alloc W o)
theorem Kept.alloc (t : TypeId) (n0 C B : Nat) (W : World) (o : Obj) : Kept t n0 C B W (W.alloc o) := .of_below (below_alloc W o)
theorem Kept.trans {t : TypeId} {n0 C B : Nat} {W1 W2 W3 : World} (h : Kept t n0 C B W1 W2) (k : Kept t n0 C B W2 W3) : Kept t n0 C B W1 W3 :=
 ⟨k.os.trans h.os, k.tape.trans h.tape, k.output.trans h.output, Nat.le_trans h.size k.size, fun i o hi ho => k.same i o (h.same i o hi ho) ho⟩
theorem Kept.mono {t : TypeId} {n0 C B n0' C' B' : Nat} {W1 W2 : World} (h : Kept t n0 C B W1 W2) (h1 : n0' ≤ n0) (h2 : C ≤ C') (h3 : B ≤ B') : Kept t n0' C' B' W1 W2 :=
 ⟨h.os, h.tape, h.output, h.size, fun k o hk ho => h.same k o hk (ho.elim (fun e => .inl (Nat.lt_of_lt_of_le e h1)) fun e => .inr (e.elim (fun e => .inl ⟨Nat.le_trans h2 e.1, e.2⟩) fun e => .inr ⟨Nat.le_trans h3 e.1, e.2⟩))⟩
theorem Kept.whole {t : TypeId} {n0 C B : Nat} {W1 W2 : World} (h : Kept t n0 C C W1 W2) (hB : C ≤ B) : Kept t n0 C B W1 W2 := h.mono (Nat.le_refl _) (Nat.le_refl _) hB
theorem Turned.below {t : TypeId} {B n : Nat} {W W' : World} (h : Turned t B W W') (hn : n ≤ B) (hs : n ≤ W.heap.size) : Below n W W' :=
 ⟨h.os, h.tape, h.output, h.size, fun k hk => by
  obtain ⟨o, ho⟩ : ∃ o, W.heap[k]? = some o := ⟨_, Array.getElem?_eq_getElem (Nat.lt_of_lt_of_le hk hs)⟩
  rw [ho]; exact h.same k o ho (.inl (Nat.lt_of_lt_of_le hk hn))⟩
theorem Kept.below {t : TypeId} {n0 C B : Nat} {W W' : World} (h : Kept t n0 C B W W') (hs : n0 ≤ W.heap.size) : Below n0 W W' :=
 ⟨h.os, h.tape, h.output, h.size, fun k hk => by
  obtain ⟨o, ho⟩ : ∃ o, W.heap[k]? = some o := ⟨_, Array.getElem?_eq_getElem (Nat.lt_of_lt_of_le hk hs)⟩
  rw [ho]; exact h.same k o ho (.inl hk)⟩
theorem Turned.putObj {t : TypeId} {B : Nat} {W : World} {l : Nat} {o : Obj} (o' : Obj) (hl : W.heap[l]? = some o) (hB : B ≤ l) (ho : rowOf t o = false) : Turned t B W (W.putObj l o') :=
 ⟨rfl, rfl, rfl, by simp, fun k o2 hk h2 => by
  have hne : k ≠ l := by
   rintro rfl
   rw [hl] at hk; cases hk
   rcases h2 with h2 | h2
   ·omega
   ·rw [ho] at h2; cases h2
  exact (World.putObj_heap_other hne).trans hk⟩
theorem Kept.putObj {t : TypeId} {n0 C B : Nat} {W : World} {l : Nat} {o : Obj} (o' : Obj) (hl : W.heap[l]? = some o) (h0 : n0 ≤ l) (hB : l < B) (ho : o.isCells = false) : Kept t n0 C B W (W.putObj l o') :=
 ⟨rfl, rfl, rfl, by simp, fun k o2 hk h2 => by
  have hne : k ≠ l := by
   rintro rfl
   rw [hl] at hk; cases hk
   rcases h2 with h2 | h2 | h2
   ·omega
   ·rw [ho] at h2; cases h2.2.1
   ·omega
  exact (World.putObj_heap_other hne).trans hk⟩
theorem Turned.setCell {t : TypeId} {B : Nat} {W : World} {b : Nat} {cs : Array Value} {t' : TypeId} {fr : Nat × Nat} (i : Nat) (v : Value) (hl : W.heap[b]? = some (.cells cs t' fr)) (hB : B ≤ b) (ht : t' ≠ t) : Turned t B W (W.setCell ⟨b, i, none⟩ v) :=
 ⟨rfl, rfl, rfl, (KeepsWalks.setCell W _ v).size, fun k o2 hk h2 => by
  have hne : k ≠ b := by
   rintro rfl
   rw [hl] at hk; cases hk
   rcases h2 with h2 | h2
   ·omega
   ·exact ht (by simpa [rowOf] using h2)
  exact (Below.heap_setCell _ _ _ _ hne).trans hk⟩
theorem Kept.setCell {t : TypeId} {n0 C B : Nat} {W : World} {b : Nat} (i : Nat) (v : Value) (h0 : n0 ≤ b) (hC : b < C) (hB : b < B) : Kept t n0 C B W (W.setCell ⟨b, i, none⟩ v) :=
 ⟨rfl, rfl, rfl, (KeepsWalks.setCell W _ v).size, fun k o2 hk h2 => by
  have hne : k ≠ b := by
   rintro rfl
   rcases h2 with h2 | h2 | h2 <;> omega
  exact (Below.heap_setCell _ _ _ _ hne).trans hk⟩
def IterOk (P : Program) (t : TypeId) (n0 C : Nat) (gf : Nat) (lb : Array Value) (xs : List L8) (w : World) : Prop :=
 ∀ (l : Nat) (J : List L8 → World → Prop) (W : World), Kept t n0 C w.heap.size w W →
  (∀ s V V', J s V → Turned t W.heap.size V V' → J s V') →
  (∀ pre x V, pre ++ [x] <+: xs → J pre V → YieldAt Fence.wide 1 P l #[encStr x] V fun e V' => e = .returned (.bool true) ∧ J (pre ++ [x]) V' ∧ Kept t n0 C W.heap.size V V') →
  J [] W →
  CallsIn Fence.wide 1 P gf (#[.func (.yield l) #[] #[]] ++ lb) W fun e W' => (∃ v, e = .returned v) ∧ J xs W'
def Seqs (P : Program) (t : TypeId) (n0 C : Nat) (v : Value) (xs : List L8) (w : World) : Prop :=
 ∃ gf lb, v = .func (.func gf) #[] lb ∧ (∀ args w, (callFunc gf args).run P w = .ok (.enter gf args) w) ∧ IterOk P t n0 C gf lb xs w
theorem callsIn_any {P : Program} {n m : Nat} {f : FuncId} {args : Array Value} {w : World} {R : Ending → World → Prop} (h : CallsIn Fence.wide n P f args w R) : CallsIn Fence.wide m P f args w R := callsIn_wide.2 (callsIn_wide.1 h)
theorem roundIn_any {P : Program} {n m : Nat} {l : Nat} {f : FuncId} {tmps : Array Value} {assign body : Code} {w : World} {R : Ending → World → Prop} (h : RoundIn Fence.wide n P l f tmps assign body w R) : RoundIn Fence.wide m P l f tmps assign body w R := ⟨trivial, fun c cs _ => h.2 c cs (room_wide _)⟩
theorem wpIn_lines {P : Program} {n : Nat} {t : TypeId} {g : Operand} {ps : Array Tmp} {assign body : Code} {Q : Exit → Act → World → Prop} {a : Act} {w : World}
  {gf : Nat} {lb : Array Value} (hg : a.eval g = .func (.func gf) #[] lb) (eg : ∀ args w, (callFunc gf args).run P w = .ok (.enter gf args) w) (hps : ps.size = 1)
  {n0 C : Nat} {xs : List L8} (hit : IterOk P t n0 C gf lb xs w) (h0C : n0 ≤ w.heap.size) (hC : C ≤ w.heap.size)
  (I : List L8 → World → Prop) (hI : ∀ s V V', I s V → Turned t w.heap.size V V' → I s V') (h0 : I [] w) (a₁ : L8 → Act)
  (hassign : ∀ (l : Nat) (x : L8) (V : World) (K : Act → World → Prop), K (a₁ x) V →
   assign.wpIn (Fence.wide.inRound l) 1 P (Exit.then K (fun _ _ _ => False)) { tmps := (ps.zip #[encStr x]).foldl (fun t (p, v) => t.setIfInBounds p v) a.tmps, defers := [] } V)
  (hbody : ∀ (l : Nat) (pre : List L8) (x : L8) (V : World), pre ++ [x] <+: xs → I pre V → body.wpIn (Fence.wide.inRound l) 1 P (fun e _ V' => e = .normal ∧ I (pre ++ [x]) V' ∧ Kept t n0 C C V V') (a₁ x) V)
  (hdone : ∀ (D : Nat) (V : World), w.heap.size ≤ D → I xs V → V.heap[D]? = some (.deferred (some [])) → Q .normal { a with defers := { target := .collected D, args := #[] } :: a.defers } V) :
  (Code.rangeFunc g ps assign body).wpIn Fence.wide n P Q a w := by
 refine wpIn_rangeFunc ?_
 intro fn hfn
 obtain ⟨rec, hrec⟩ : ∃ rec : LoopState → Option Code → Loop, rec = fun st pe => { state := st, pending := pe, fn, tmps := a.tmps, params := ps, assign, body, defers := w.heap.size } := ⟨_, rfl⟩
 obtain ⟨W1, hW1⟩ : ∃ W1, (w.alloc (.deferred (some []))).alloc (.loop (rec .ready none)) = W1 := ⟨_, rfl⟩
 have hs1 : W1.heap.size = w.heap.size + 2 := by rw [← hW1]; simp
 have hL1 : W1.heap[w.heap.size + 1]? = some (.loop (rec .ready none)) := by
  rw [← hW1]; have := World.alloc_heap_new (w.alloc (.deferred (some []))) (.loop (rec .ready none)); rwa [World.size_alloc] at this
 have hD1 : W1.heap[w.heap.size]? = some (.deferred (some [])) := by
  rw [← hW1]; exact (Below.heap_alloc _ _ _ (by simp)).trans (World.alloc_heap_new w _)
 have hB1 : Below w.heap.size w W1 := by rw [← hW1]; exact (below_alloc w _).alloc (by simp) _
 have hI1 : I [] W1 := hI _ _ _ h0 (.of_below hB1)
 refine ⟨w.heap.size + 1, [{ target := .collected w.heap.size, args := #[] }], W1, { target := .fn (.func gf) lb, args := #[.func (.yield (w.heap.size + 1)) #[] #[]] }, W1, gf,
  #[.func (.yield (w.heap.size + 1)) #[] #[]] ++ lb, W1, ?_, ?_, ?_, ?_, fun h => (by cases h), ?_⟩
 ·rw [← hW1, hrec]; exact run_enterLoop_outer _ _ _ _ _
 ·simp only [resolve, hg]
  simp [go_sem]
 ·intro f' _; trivial
 ·simp [invoke, go_sem, eg]
 ·refine (callsIn_any (hit (w.heap.size + 1)
   (fun pre V => I pre V ∧ V.heap[w.heap.size + 1]? = some (.loop (rec .ready none)) ∧ V.heap[w.heap.size]? = some (.deferred (some [])))
   W1 (.of_below hB1)
   (fun s V V' hs hT => ⟨hI s V V' hs.1 (hT.mono (by omega)), hT.same _ _ hs.2.1 (.inl (by omega)), hT.same _ _ hs.2.2 (.inl (by omega))⟩)
   ?_ ⟨hI1, hL1, hD1⟩)).mono ?_
  ·rintro pre x V hpre ⟨hi, hl, hk⟩
   have hy := run_yield (P := P) (args := #[encStr x]) hl (by rw [hrec]; simp [hps])
   rw [hrec] at hy
   refine ⟨fn, _, assign, body, hy, roundIn_of_wpIn hfn (hassign _ x V _ ⟨_, run_beginRound hl (by rw [hrec]), ?_⟩)⟩
   have hlt : w.heap.size + 1 < V.heap.size := lt_of_heap hl
   obtain ⟨V2, hV2⟩ : ∃ V2, V.putObj (w.heap.size + 1) (.loop { rec .ready none with state := .busy }) = V2 := ⟨_, rfl⟩
   have hl2 : V2.heap[w.heap.size + 1]? = some (.loop { rec .ready none with state := .busy }) := by rw [← hV2]; exact World.putObj_heap_same hlt
   have hk2 : V2.heap[w.heap.size]? = some (.deferred (some [])) := by rw [← hV2]; exact (World.putObj_heap_other (by omega)).trans hk
   have hT2 : Turned t w.heap.size V V2 := by rw [← hV2]; exact .putObj _ hl (by omega) rfl
   have hK2 : Kept t n0 C W1.heap.size V V2 := by rw [← hV2]; exact .putObj _ hl (by omega) (by omega) rfl
   rw [hV2]
   refine wpIn_mono (hbody _ pre x V2 hpre (hI _ _ _ hi hT2)) ?_
   rintro e a3 V3 ⟨rfl, hi3, hk3⟩
   have hl3 := hk3.same _ _ hl2 (.inr (.inr ⟨by omega, rfl⟩))
   have hd3 := hk3.same _ _ hk2 (.inr (.inr ⟨by omega, rfl⟩))
   have hend := run_endRound (P := P) none hl3
   rw [hrec] at hend
   refine ⟨_, _, hend, rfl, ⟨hI _ _ _ hi3 (.putObj _ hl3 (by omega) rfl), ?_, ?_⟩, ?_⟩
   ·rw [hrec]; exact World.putObj_heap_same (lt_of_heap hl3)
   ·exact (World.putObj_heap_other (by omega)).trans hd3
   ·exact (hK2.trans (hk3.whole (by omega))).trans (.putObj _ hl3 (by omega) (by omega) rfl)
  ·rintro e W2 ⟨⟨v, rfl⟩, hi, hl, hk⟩
   refine ⟨none, _, by have := run_endLoop (P := P) hl (by rw [hrec]; simp); rw [hrec] at this; exact this, hdone _ _ (Nat.le_refl _) (hI _ _ _ hi (.putObj _ hl (by omega) rfl)) ((World.putObj_heap_other (by omega)).trans hk)⟩
def shut (Ds : List Nat) (W : World) : World := Ds.foldl (fun W D => W.putObj D (.deferred none)) W
def markOf (D : Nat) : Deferred := { target := .collected D, args := #[] }
theorem shut_facts {t : TypeId} {B : Nat} : ∀ (Ds : List Nat) (W : World), (∀ D ∈ Ds, B ≤ D ∧ ∃ o, W.heap[D]? = some o ∧ rowOf t o = false) → Turned t B W (shut Ds W)
 | [], W, _ => .refl _ _ _
 | D :: Ds, W, h => by
  obtain ⟨hB, o, ho, hr⟩ := h D (by simp)
  refine (Turned.putObj (.deferred none) ho hB hr).trans (shut_facts Ds _ fun E hE => ?_)
  obtain ⟨hB2, o2, ho2, hr2⟩ := h E (by simp [hE])
  by_cases e : E = D
  ·subst e; exact ⟨hB2, _, World.putObj_heap_same (lt_of_heap ho), rfl⟩
  ·exact ⟨hB2, o2, (World.putObj_heap_other e).trans ho2, hr2⟩
theorem leaves_marks {F : Fence} {n : Nat} {P : Program} {fn : Func} {tmps : Array Value} {R : Ending → World → Prop} : ∀ (Ds : List Nat) (W : World), Ds.Nodup → (∀ D ∈ Ds, W.heap[D]? = some (.deferred (some []))) →
  (∃ v, (results fn tmps).run P (shut Ds W) = .ok v (shut Ds W) ∧ R (.returned v) (shut Ds W)) → LeavesInM F n P fn tmps R (Ds.map markOf) .returning W
 | [], W, _, _, h => h
 | D :: Ds, W, hn, hD, h => by
  refine ⟨by simp, .inl ⟨_, _, rfl, run_takeDeferred (hD D (by simp)), leaves_marks Ds _ hn.tail (fun E hE => ?_) h⟩⟩
  have hne : E ≠ D := fun e => (List.nodup_cons.1 hn).1 (e ▸ hE)
  exact (World.putObj_heap_other hne).trans (hD E (by simp [hE]))
end
section
open Go.RowKit Go.Sort
open Nw
theorem ret_bool {a b : Bool} (h : a = b) : Ending.returned (.bool a) = .returned (.bool b) := by rw [h]
theorem str_ne_true {x y : L8} (h : x ≠ y) : ((ba x).toList == (ba y).toList) = false := by rw [ba_list, ba_list]; exact beq_eq_false_iff_ne.2 h
theorem str_ne_false {x : L8} : ((ba x).toList == (ba x).toList) = true := by simp
theorem RSame_any (v u : Value) (l m : List L8) (w : World) (h : Rd w v l) (k : Rd w u m) :
  Calls Tryz.prog 32 #[v, u] w fun e w' => e = .returned (.bool (decide (l = m))) ∧ Below w.heap.size w w' := by
 obtain ⟨a, cap, rfl, h1, h2, h3⟩ := h
 obtain ⟨a2, cap2, rfl, k1, k2, k3⟩ := k
 unfold maxLen at h2 k2
 by_cases hlen : l.length = m.length
 ·obtain ⟨n, hn⟩ : ∃ n, n = l.length := ⟨_, rfl⟩
  have hm : n = m.length := by omega
  have HN : Hid (n = l.length ∧ n = m.length) := hid ⟨hn, hm⟩
  rw [← hn, ← hm]
  rw [← hn] at h1
  rw [← hm] at k1
  clear hn hm hlen
  go_enter Tryz.func32, Tryz.ntmps32
  go_wp2
  go_loopw [5] (fun i wr => ∃ k : Nat, k ≤ n ∧ i = .int .i64 k ∧ (∀ j (hj : j < l.length) (hj' : j < m.length), j < k → l[j] = m[j]) ∧ Below w.heap.size w wr) (fun i _ => n - (intOf i).toNat)
  case atStart => exact ⟨0, Nat.zero_le _, rfl, fun j _ _ h => absurd h (Nat.not_lt_zero _), Below.refl _ _⟩
  case round =>
   obtain ⟨k, hk, rfl, hall, hbel⟩ := hrel
   have HA := hid hall; clear hall
   have HB := hid hbel; clear hbel
   by_cases hlt : k < n
   ·have hl : Hid (k < l.length) := hid (by have := HN.out.1; omega)
    have hm : Hid (k < m.length) := hid (by have := HN.out.2; omega)
    rcases h3 with ⟨rfl, _⟩ | ⟨b, o, rfl, h4, h5⟩
    ·exact absurd hl.out (Nat.not_lt_zero _)
    rcases k3 with ⟨rfl, _⟩ | ⟨b2, o2, rfl, k4, k5⟩
    ·exact absurd hm.out (Nat.not_lt_zero _)
    have hc := (HB.out.cell (p := ⟨b, o + k, none⟩) h4).trans (h5 k hl.out)
    have kc := (HB.out.cell (p := ⟨b2, o2 + k, none⟩) k4).trans (k5 k hm.out)
    clear h5 k5
    have hltz : (k : Int) < (n : Int) := by omega
    by_cases he : l[k]'hl.out = m[k]'hm.out
    ·have HE := hid he
     have b1 := str_ne_false (x := l[k]'hl.out)
     rw [← he] at kc
     clear he
     generalize ba (l[k]'hl.out) = x at hc kc b1
     go_wp2
     go_quiet (fail)
     go_wp2
     go_roundw
     case rel =>
      refine ⟨k + 1, by omega, by go_num, fun j hj hj' hjk => ?_, ?_⟩
      ·rcases Nat.lt_succ_iff_lt_or_eq.1 hjk with h | rfl
       ·exact HA.out j hj hj' h
       ·exact HE.out
      ·exact HB.out.trans ((below_drewN _ _).mono HB.out.size)
     case measure => simp [intOf]; omega
    ·have HE := hid he
     have b1 := str_ne_true he
     clear he
     generalize ba (l[k]'hl.out) = x at hc b1
     generalize ba (m[k]'hm.out) = y at kc b1
     go_wp2
     go_quiet (fail)
     go_wp2
     go_ret
     exact ⟨ret_bool (decide_eq_false fun e => HE.out (by subst e; rfl)).symm, HB.out.trans ((below_drewN _ _).mono HB.out.size)⟩
   ·go_wp2
    go_ret
    refine ⟨ret_bool (decide_eq_true (List.ext_getElem (by rw [← HN.out.1, ← HN.out.2]) fun j hj hj' => HA.out j hj hj' ?_)).symm, HB.out⟩
    have := HN.out.1
    omega
 ·have H : Hid (l ≠ m) := hid fun e => hlen (by rw [e])
  have hz : ¬ (l.length : Int) = (m.length : Int) := by omega
  go_enter Tryz.func32, Tryz.ntmps32
  go_wp2
  go_ret
  exact ⟨ret_bool (decide_eq_false H.out).symm, Below.refl _ _⟩
end
end Go.Proofs.YtmdgpejedbkkdaaGreatDoor
namespace Go.Proofs
open Go.Shelf
def Tryz.lays190_ren : Go.Shelf.Ren := ⟨fun | 190 => 157 | 125 => 169 | 258 => 168 | 128 => 184 | 129 => 185 | 302 => 175 | 303 => 176 | 304 => 177 | 305 => 178 | 306 => 179 | 307 => 180 | 308 => 181 | 309 => 182 | 310 => 183 | 333 => 190 | 329 => 191 | 330 => 192 | 334 => 193 | 335 => 194 | 336 => 195 | 344 => 197 | n => n, fun | 31 => 22 | 9 => 9 | 3 => 3 | 46 => 91 | 0 => 0 | 51 => 140 | 53 => 167 | 4 => 4 | 183 => 160 | 182 => 159 | 131 => 94 | 5 => 5 | 218 => 168 | 222 => 81 | 228 => 174 | 229 => 100 | n => n, fun | n => n⟩
theorem Tryz.lays190 : Go.Proofs.Lays.n190 Tryz.prog Tryz.lays190_ren := {
 mixed := by kernel_rfl
 f125 := Tryz.func169.trans (congrArg some (by kernel_rfl))
 f128 := Tryz.func184.trans (congrArg some (by kernel_rfl))
 f129 := Tryz.func185.trans (congrArg some (by kernel_rfl))
 f190 := Tryz.func157.trans (congrArg some (by kernel_rfl))
 f258 := Tryz.func168.trans (congrArg some (by kernel_rfl))
 f302 := Tryz.func175.trans (congrArg some (by kernel_rfl))
 f303 := Tryz.func176.trans (congrArg some (by kernel_rfl))
 f304 := Tryz.func177.trans (congrArg some (by kernel_rfl))
 f305 := Tryz.func178.trans (congrArg some (by kernel_rfl))
 f306 := Tryz.func179.trans (congrArg some (by kernel_rfl))
 f307 := Tryz.func180.trans (congrArg some (by kernel_rfl))
 f308 := Tryz.func181.trans (congrArg some (by kernel_rfl))
 f309 := Tryz.func182.trans (congrArg some (by kernel_rfl))
 f310 := Tryz.func183.trans (congrArg some (by kernel_rfl))
 f329 := Tryz.func191.trans (congrArg some (by kernel_rfl))
 f330 := Tryz.func192.trans (congrArg some (by kernel_rfl))
 f333 := Tryz.func190.trans (congrArg some (by kernel_rfl))
 f334 := Tryz.func193.trans (congrArg some (by kernel_rfl))
 f335 := Tryz.func194.trans (congrArg some (by kernel_rfl))
 f336 := Tryz.func195.trans (congrArg some (by kernel_rfl))
 f344 := Tryz.func197.trans (congrArg some (by kernel_rfl))
 t0 := Tryz.underlying0
 a0 := Tryz.isAgg0
 z0 := Tryz.sizeOf0
 v0 := Tryz.zeroValue0
 t3 := Tryz.underlying3
 a3 := Tryz.isAgg3
 z3 := Tryz.sizeOf3
 v3 := Tryz.zeroValue3
 t4 := Tryz.underlying4
 a4 := Tryz.isAgg4
 z4 := Tryz.sizeOf4
 v4 := Tryz.zeroValue4
 t5 := Tryz.underlying5
 a5 := Tryz.isAgg5
 z5 := Tryz.sizeOf5
 v5 := Tryz.zeroValue5
 t9 := Tryz.underlying9
 a9 := Tryz.isAgg9
 z9 := Tryz.sizeOf9
 v9 := Tryz.zeroValue9
 t31 := Tryz.underlying22
 a31 := Tryz.isAgg22
 z31 := Tryz.sizeOf22
 v31 := Tryz.zeroValue22
 t46 := Tryz.underlying91
 a46 := Tryz.isAgg91
 z46 := Tryz.sizeOf91
 v46 := Tryz.zeroValue91
 t51 := Tryz.underlying140
 a51 := Tryz.isAgg140
 z51 := Tryz.sizeOf140
 v51 := Tryz.zeroValue140
 t53 := Tryz.underlying167
 a53 := Tryz.isAgg167
 z53 := Tryz.sizeOf167
 v53 := Tryz.zeroValue167
 t131 := Tryz.underlying94
 a131 := Tryz.isAgg94
 z131 := Tryz.sizeOf94
 v131 := Tryz.zeroValue94
 t182 := Tryz.underlying159
 a182 := Tryz.isAgg159
 z182 := Tryz.sizeOf159
 v182 := Tryz.zeroValue159
 t183 := Tryz.underlying160
 a183 := Tryz.isAgg160
 z183 := Tryz.sizeOf160
 v183 := Tryz.zeroValue160
 t218 := Tryz.underlying168
 a218 := Tryz.isAgg168
 z218 := Tryz.sizeOf168
 v218 := Tryz.zeroValue168
 t222 := Tryz.underlying81
 a222 := Tryz.isAgg81
 z222 := Tryz.sizeOf81
 v222 := Tryz.zeroValue81
 t228 := Tryz.underlying174
 a228 := Tryz.isAgg174
 z228 := Tryz.sizeOf174
 v228 := Tryz.zeroValue174
 t229 := Tryz.underlying100
 a229 := Tryz.isAgg100
 z229 := Tryz.sizeOf100
 v229 := Tryz.zeroValue100 }
open Go.Sort Go.RowKit in
theorem Tryz.slices_Sort_string (blk off cap : Nat) (ss : List (List UInt8)) (w : World) (hH : Holds encStr w blk off ss.toArray) (hblk : blk < w.heap.size) (hsz : ss.length < 4611686018427387904) :
  Calls Tryz.prog 157 #[.slice (some ⟨blk, off, none⟩) ss.length cap] w fun e w' =>
   e = .returned (.tuple #[]) ∧ ∃ n os, w' = grow (putRow encStr (Sort.ahead w n) blk off (ss.mergeSort fun x y => decide (x ≤ y)).toArray) os := Any.slices_Sort_string Tryz.lays190 blk off cap ss w hH hblk hsz
def Tryz.lays110_ren : Go.Shelf.Ren := ⟨fun | 110 => 131 | 109 => 140 | n => n, fun | 31 => 22 | 9 => 9 | 4 => 4 | 3 => 3 | 0 => 0 | n => n, fun | n => n⟩
theorem Tryz.lays110 : Go.Proofs.Lays.n110 Tryz.prog Tryz.lays110_ren := {
 mixed := by kernel_rfl
 f109 := Tryz.func140.trans (congrArg some (by kernel_rfl))
 f110 := Tryz.func131.trans (congrArg some (by kernel_rfl))
 t0 := Tryz.underlying0
 a0 := Tryz.isAgg0
 z0 := Tryz.sizeOf0
 v0 := Tryz.zeroValue0
 t3 := Tryz.underlying3
 a3 := Tryz.isAgg3
 z3 := Tryz.sizeOf3
 v3 := Tryz.zeroValue3
 t4 := Tryz.underlying4
 a4 := Tryz.isAgg4
 z4 := Tryz.sizeOf4
 v4 := Tryz.zeroValue4
 t9 := Tryz.underlying9
 a9 := Tryz.isAgg9
 z9 := Tryz.sizeOf9
 v9 := Tryz.zeroValue9
 t31 := Tryz.underlying22
 a31 := Tryz.isAgg22
 z31 := Tryz.sizeOf22
 v31 := Tryz.zeroValue22 }
open Go.Lib in
theorem Tryz.slices_Contains_string (b off n c : Nat) (zs : List ByteArray) (x : ByteArray) (w : World) (hz : n ≤ zs.length) (hbig : n ≤ 9223372036854775807) (hc : ∀ j, j < zs.length → w.cell? ⟨b, off + j, none⟩ = some (.string (zs.getD j ByteArray.empty))) :
  Calls Tryz.prog 131 #[.slice (some ⟨b, off, none⟩) n c, .string x] w fun e w' => e = .returned (.bool (Lib.containsS (zs.take n) x)) ∧ w' = w := Any.slices_Contains_string Tryz.lays110 b off n c zs x w hz hbig hc
open Go.Lib in
theorem Tryz.slices_Contains_string_empty (a : Option Addr) (c : Nat) (x : ByteArray) (w : World) :
  Calls Tryz.prog 131 #[.slice a 0 c, .string x] w fun e w' => e = .returned (.bool false) ∧ w' = w := Any.slices_Contains_string_empty Tryz.lays110 a c x w
def Tryz.lays194_ren : Go.Shelf.Ren := ⟨fun | 194 => 158 | n => n, fun | 31 => 22 | 9 => 9 | 3 => 3 | 4 => 4 | 0 => 0 | n => n, fun | n => n⟩
theorem Tryz.lays194 : Go.Proofs.Lays.n194 Tryz.prog Tryz.lays194_ren := {
 mixed := by kernel_rfl
 f194 := Tryz.func158.trans (congrArg some (by kernel_rfl))
 t0 := Tryz.underlying0
 a0 := Tryz.isAgg0
 z0 := Tryz.sizeOf0
 v0 := Tryz.zeroValue0
 t3 := Tryz.underlying3
 a3 := Tryz.isAgg3
 z3 := Tryz.sizeOf3
 v3 := Tryz.zeroValue3
 t4 := Tryz.underlying4
 a4 := Tryz.isAgg4
 z4 := Tryz.sizeOf4
 v4 := Tryz.zeroValue4
 t9 := Tryz.underlying9
 a9 := Tryz.isAgg9
 z9 := Tryz.sizeOf9
 v9 := Tryz.zeroValue9
 t31 := Tryz.underlying22
 a31 := Tryz.isAgg22
 z31 := Tryz.sizeOf22
 v31 := Tryz.zeroValue22 }
open Go.RowKit Go.Lib Go.Sort in
theorem Tryz.slices_Compact_string (blk off cap : Nat) (zs : List (List UInt8)) (w : World) (hH : Holds encStr w blk off zs.toArray) (hsz : zs.length ≤ 9223372036854775807) (hcap : zs.length ≤ cap) :
  Calls Tryz.prog 158 #[.slice (some ⟨blk, off, none⟩) zs.length cap] w fun e w' => e = .returned (.slice (some ⟨blk, off, none⟩) (Lib.compact zs).length cap) ∧ ∃ q, w' = putRow encStr (Sort.ahead w q) blk off (Lib.compact zs ++ List.replicate (zs.length - (Lib.compact zs).length) []).toArray := Any.slices_Compact_string Tryz.lays194 blk off cap zs w hH hsz hcap
open Go.RowKit Go.Lib Go.Sort in
theorem Tryz.slices_Compact_string_empty (a : Option Addr) (cap : Nat) (w : World) :
  Calls Tryz.prog 158 #[.slice a 0 cap] w fun e w' => e = .returned (.slice a 0 cap) ∧ w' = w := Any.slices_Compact_string_empty Tryz.lays194 a cap w
open Go.RowKit Go.Sort in
theorem Tryz.slices_Sort_string_none (p : Option Addr) (cap : Nat) (w : World) :
  Calls Tryz.prog 157 #[.slice p 0 cap] w fun e w' => e = .returned (.tuple #[]) ∧ w' = w := Any.slices_Sort_string_none Tryz.lays190 p cap w
def Tryz.lays8n4_ren : Go.Shelf.Ren := ⟨fun | 4 => 159 | n => n, fun | 22 => 22 | 25 => 9 | 3 => 3 | 4 => 4 | 9 => 9 | 20 => 20 | 0 => 0 | n => n, fun | n => n⟩
theorem Tryz.lays8n4 : Go.Proofs.Lays8.n4 Tryz.prog Tryz.lays8n4_ren := {
 mixed := by kernel_rfl
 f4 := ⟨Tryz.f159.name, by decide, Tryz.func159.trans (congrArg some (by kernel_rfl))⟩
 t0 := Tryz.underlying0
 a0 := Tryz.isAgg0
 z0 := Tryz.sizeOf0
 v0 := Tryz.zeroValue0
 t3 := Tryz.underlying3
 a3 := Tryz.isAgg3
 z3 := Tryz.sizeOf3
 v3 := Tryz.zeroValue3
 t4 := Tryz.underlying4
 a4 := Tryz.isAgg4
 z4 := Tryz.sizeOf4
 v4 := Tryz.zeroValue4
 t9 := Tryz.underlying9
 a9 := Tryz.isAgg9
 z9 := Tryz.sizeOf9
 v9 := Tryz.zeroValue9
 t20 := Tryz.underlying20
 a20 := Tryz.isAgg20
 z20 := Tryz.sizeOf20
 v20 := Tryz.zeroValue20
 t22 := Tryz.underlying22
 a22 := Tryz.isAgg22
 z22 := Tryz.sizeOf22
 v22 := Tryz.zeroValue22 }
open Go.RowKit in
theorem Tryz.slices_Grow_room (base : Option Addr) (l c n : Nat) (w : World) (hlc : l ≤ c) (hc63 : c ≤ 9223372036854775807) (hn63 : n ≤ 9223372036854775807) (hroom : l + n ≤ c) :
  Calls Tryz.prog 159 #[.slice base l c, .int .i64 n] w fun e w' => e = .returned (.slice base l c) ∧ w' = w := Any8.slices_Grow_room Tryz.lays8n4 base l c n w hlc hc63 hn63 hroom
open Go.RowKit Go.Lib in
theorem Tryz.slices_Grow_grow (i0 : TypeInfo) (z : Value) (hi0 : Tryz.prog.info? 9 = some i0) (hz0 : i0.zero = some z) (hs0 : 0 < i0.size)
  (base : Option Addr) (l c n : Nat) (cs : List Value) (w : World) (hlc : l ≤ c) (hroom : c < l + n) (hbig : (l + n) * i0.bytes ≤ 140737488355328) (h63 : l + n ≤ 4611686018427387904)
  (hcl : cs.length = c * i0.size) (hnil : base = none → c = 0) (hcs : ∀ a, base = some a → ∀ j v, cs[j]? = some v → w.cell? (a.add j) = some v) :
  Calls Tryz.prog 159 #[.slice base l c, .int .i64 n] w fun e w' =>
   e = .returned (.slice (some ⟨w.heap.size, 0, none⟩) l (grownCap w (l + n) c 9)) ∧
   w' = w.drew.alloc (.cells (cs.toArray ++ Builtin.zeroCells z.cells (l + n - c) ++ Builtin.zeroCells z.cells (grownCap w (l + n) c 9 - (l + n))) 9) := Any8.slices_Grow_grow Tryz.lays8n4 i0 z hi0 hz0 hs0 base l c n cs w hlc hroom hbig h63 hcl hnil hcs
end Go.Proofs
namespace Go.Proofs.YtmdgpejedbkkdaaGreatDoor
section
open Go.RowKit Go.Sort
open Nw
theorem containsS_mem (l : List L8) (s : ByteArray) : Lib.containsS ((l.map ba).take l.length) s = decide (s.data.toList ∈ l) := by
 rw [List.take_of_length_le (by simp)]
 rw [Bool.eq_iff_iff, Lib.containsS_iff, decide_eq_true_eq]
 constructor
 ·intro h
  obtain ⟨x, hx, rfl⟩ := List.mem_map.1 h
  rwa [ba_data]
 ·intro h; exact List.mem_map.2 ⟨_, h, ba_of s⟩
theorem In_any (v : Value) (l : List L8) (s : ByteArray) (w : World) (h : Rd w v l) :
  Calls Tryz.prog 109 #[v, .string s] w fun e w' => e = .returned (.bool (decide (s.data.toList ∈ l))) ∧ w = w' := by
 rcases h.cases with ⟨a, cap, rfl, rfl, _⟩ | ⟨b, o, cap, rfl, h1, h2, h3, h4⟩
 ·have hcon := Tryz.slices_Contains_string_empty a cap s w
  go_enter Tryz.func109, Tryz.ntmps109
  go_wp2_with (go_at_call 131; refine hcon.mono ?_; rintro e w' ⟨rfl, rfl⟩)
  go_ret
  exact ⟨ret_bool (by simp), rfl⟩
 ·have hcon := Tryz.slices_Contains_string b o l.length cap (l.map ba) s w (by simp) (by unfold maxLen at h2; omega) (fun j hj => by rw [map_ba l j hj]; exact h4 j (by simpa using hj))
  rw [containsS_mem] at hcon
  clear h h4
  generalize decide (s.data.toList ∈ l) = r at hcon ⊢
  go_enter Tryz.func109, Tryz.ntmps109
  go_wp2_with (go_at_call 131; refine hcon.mono ?_; rintro e w' ⟨rfl, rfl⟩)
  go_ret
  exact ⟨rfl, rfl⟩
end
end Go.Proofs.YtmdgpejedbkkdaaGreatDoor
