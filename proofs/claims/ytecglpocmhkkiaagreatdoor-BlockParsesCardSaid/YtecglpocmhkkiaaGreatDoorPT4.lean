/- NamRd, NodMem, NamRsortMath, NamRsort -/
import Derived.Below
import Derived.BigQuiet
import Derived.ChangeAlike
import Derived.Deep.LoopGhost
import Derived.Deep.QuietTactic
import Derived.Laws.Cover1
import Derived.Laws.OwnMore
import Derived.Lib.Hide
import Derived.Lib.OwnBridge
import Derived.ProofKit
import Derived.RegionTactic
import Derived.Shelf.Small.Strs
import Derived.SliceStrings
import Derived.Sort.OwnSorted
import Derived.Test.YtecglpocmhkkiaaGreatDoorPT2
import Derived.Test.YtecglpocmhkkiaaGreatDoorRows
import Derived.WalkKit
set_option linter.unusedVariables false
set_option linter.unusedSimpArgs false
set_option maxRecDepth 100000
set_option maxHeartbeats 16000000
open Go.Lib (hid)
namespace Go.Proofs.YtecglpocmhkkiaaGreatDoor
section
open Go.RowKit Go.Sort Go.Lib
open Nw
def ba (x : L8) : ByteArray := ⟨x.toArray⟩
theorem ba_data (x : L8) : (ba x).data.toList = x := by simp [ba]
theorem ba_list (x : L8) : (ba x).toList = x := by rw [ByteArray.toList_eq, ba_data]
theorem ba_of (s : ByteArray) : ba s.data.toList = s := by cases s; simp [ba]
def Rd (w : World) (v : Value) (l : List L8) : Prop :=
 ∃ (a : Option Addr) (cap : Nat), v = .slice a l.length cap ∧ l.length ≤ cap ∧ cap ≤ maxLen ∧
  ((l = [] ∧ (a = none → cap = 0)) ∨ ∃ b o, a = some ⟨b, o, none⟩ ∧ b < w.heap.size ∧ ∀ j (h : j < l.length), w.cell? ⟨b, o + j, none⟩ = some (.string (ba l[j])))
theorem Rd.below {w w' : World} {v : Value} {l : List L8} (h : Rd w v l) (hb : Below w.heap.size w w') : Rd w' v l := by
 obtain ⟨a, cap, rfl, h1, h2, h3⟩ := h
 refine ⟨a, cap, rfl, h1, h2, ?_⟩
 rcases h3 with h3 | ⟨b, o, rfl, h4, h5⟩
 ·exact .inl h3
 ·exact .inr ⟨b, o, rfl, Nat.lt_of_lt_of_le h4 hb.size, fun j hj => (hb.cell (p := ⟨b, o + j, none⟩) h4).trans (h5 j hj)⟩
theorem Rd.cases {w : World} {v : Value} {l : List L8} (h : Rd w v l) :
  (∃ a cap, v = .slice a 0 cap ∧ l = [] ∧ cap ≤ maxLen ∧ (a = none → cap = 0)) ∨ (∃ b o cap, v = .slice (some ⟨b, o, none⟩) l.length cap ∧ l.length ≤ cap ∧ cap ≤ maxLen ∧ b < w.heap.size ∧ ∀ j (h : j < l.length), w.cell? ⟨b, o + j, none⟩ = some (.string (ba l[j]))) := by
 obtain ⟨a, cap, rfl, h1, h2, h3⟩ := h
 rcases h3 with ⟨rfl, hn⟩ | ⟨b, o, rfl, h4, h5⟩
 ·exact .inl ⟨a, cap, rfl, rfl, h2, hn⟩
 ·exact .inr ⟨b, o, cap, rfl, h1, h2, h4, h5⟩
theorem rd_empty (w : World) (a : Option Addr) (cap : Nat) (h : cap ≤ maxLen) (hn : a = none → cap = 0) : Rd w (.slice a 0 cap) [] := ⟨a, cap, rfl, Nat.zero_le _, h, .inl ⟨rfl, hn⟩⟩
theorem rd_of_owns {w : World} {base n : Nat} {e : TypeId} {v : Value} {l : List L8} (h : w.ownsRow base e 1 v n (l.map encStr)) : Rd w v l := by
 have hl : l.length = n := by simpa using h.1
 by_cases hv : v = .slice none 0 0
 ·subst hv
  rcases h.2 with ⟨_, h0⟩ | ⟨g, cap, cur, h0, _⟩
  ·obtain rfl : l = [] := List.length_eq_zero_iff.1 (by omega)
   exact rd_empty w none 0 (Nat.zero_le _) fun _ => rfl
  ·cases h0
 ·obtain ⟨g, cap, rfl, _, hg, h1, h2, _, hH⟩ := holds_of_ownsRow h hv
  subst hl
  refine ⟨_, cap, rfl, h1, h2, .inr ⟨g, 0, rfl, hg, fun j hj => ?_⟩⟩
  have := (hH j (by simpa using hj)).1
  rw [getElem!_pos l.toArray j (by simpa using hj)] at this
  have h2 : w.cell? ⟨g, 0 + j, none⟩ = some (encStr l[j]) := by simpa using this
  exact h2
theorem map_ba (l : List L8) (j : Nat) (h : j < (l.map ba).length) : (l.map ba).getD j ByteArray.empty = ba (l[j]'(by simpa using h)) := by
 rw [List.getD_eq_getElem?_getD, List.getElem?_eq_getElem h]; simp
theorem below_drewN (w : World) (q : Nat) : Below w.heap.size w (w.drewN q) := ⟨rfl, rfl, rfl, Nat.le_refl _, fun _ _ => rfl⟩
theorem str_eq_true {x : L8} {s : ByteArray} (h : x = s.data.toList) : ((ba x).toList == s.toList) = true := by rw [ba_list, ByteArray.toList_eq, h]; exact beq_self_eq_true _
theorem str_eq_false {x : L8} {s : ByteArray} (h : x ≠ s.data.toList) : ((ba x).toList == s.toList) = false := by rw [ba_list, ByteArray.toList_eq]; exact beq_eq_false_iff_ne.2 h
end
section
open Go.RowKit Go.Sort
open Nw N8 Go.ChangeShapes Go.WideShapes
def RdS (S : Nat → Prop) (w : World) (v : Value) (l : List L8) : Prop :=
 ∃ (a : Option Addr) (cap : Nat), v = .slice a l.length cap ∧ l.length ≤ cap ∧ cap ≤ maxLen ∧
  ((l = [] ∧ (a = none → cap = 0)) ∨ ∃ b o, a = some ⟨b, o, none⟩ ∧ S b ∧ ∀ j (h : j < l.length), w.cell? ⟨b, o + j, none⟩ = some (.string (ba l[j])))
theorem RdS.keep {S T : Nat → Prop} {w w' : World} {v : Value} {l : List L8} (h : RdS S w v l) (hk : ∀ b, S b → T b ∧ w'.heap[b]? = w.heap[b]?) : RdS T w' v l := by
 obtain ⟨a, cap, rfl, h1, h2, h3⟩ := h
 refine ⟨a, cap, rfl, h1, h2, ?_⟩
 rcases h3 with h3 | ⟨b, o, rfl, h4, h5⟩
 ·exact .inl h3
 ·exact .inr ⟨b, o, rfl, (hk b h4).1, fun j hj => (World.cell?_of_block (hk b h4).2).trans (h5 j hj)⟩
mutual
def NdC (S : Nat → Prop) (w : World) : Nd → Value → Value → Value → Value → Prop
 | .mk k t ks ds, c0, c1, c2, c3 => c0 = .int .i64 k ∧ c1 = .string (ba t) ∧ RdS S w c2 ks ∧
   ∃ (A : Option Addr) (cap : Nat), c3 = .slice A ds.length cap ∧ ds.length ≤ cap ∧ cap ≤ maxLen ∧ (A = none → cap = 0) ∧ NdK S w ds A 0
def NdK (S : Nat → Prop) (w : World) : List Nd → Option Addr → Nat → Prop
 | [], _, _ => True
 | d :: ds, A, i => (∃ (b o : Nat) (c0 c1 c2 c3 : Value), A = some ⟨b, o, none⟩ ∧ S b ∧ w.cell? ⟨b, o + i * 4, none⟩ = some c0 ∧ w.cell? ⟨b, o + i * 4 + 1, none⟩ = some c1 ∧
   w.cell? ⟨b, o + i * 4 + 2, none⟩ = some c2 ∧ w.cell? ⟨b, o + i * 4 + 3, none⟩ = some c3 ∧ NdC S w d c0 c1 c2 c3) ∧ NdK S w ds A (i + 1)
end
mutual
theorem NdC.keep {S T : Nat → Prop} {w w' : World} (hk : ∀ b, S b → T b ∧ w'.heap[b]? = w.heap[b]?) : ∀ (d : Nd) {c0 c1 c2 c3 : Value}, NdC S w d c0 c1 c2 c3 → NdC T w' d c0 c1 c2 c3
 | .mk k t ks ds, c0, c1, c2, c3, h => by
  rw [NdC] at h ⊢
  obtain ⟨h0, h1, h2, A, cap, h3, h4, h5, h6, h7⟩ := h
  exact ⟨h0, h1, h2.keep hk, A, cap, h3, h4, h5, h6, NdK.keep hk ds h7⟩
theorem NdK.keep {S T : Nat → Prop} {w w' : World} (hk : ∀ b, S b → T b ∧ w'.heap[b]? = w.heap[b]?) : ∀ (ds : List Nd) {A : Option Addr} {i : Nat}, NdK S w ds A i → NdK T w' ds A i
 | [], A, i, _ => by rw [NdK]; trivial
 | d :: ds, A, i, h => by
  rw [NdK] at h ⊢
  obtain ⟨⟨b, o, c0, c1, c2, c3, hA, hS, e0, e1, e2, e3, hd⟩, hds⟩ := h
  exact ⟨⟨b, o, c0, c1, c2, c3, hA, (hk b hS).1, (World.cell?_of_block (hk b hS).2).trans e0, (World.cell?_of_block (hk b hS).2).trans e1, (World.cell?_of_block (hk b hS).2).trans e2, (World.cell?_of_block (hk b hS).2).trans e3, NdC.keep hk d hd⟩, NdK.keep hk ds hds⟩
end
theorem NdK.at_ {S : Nat → Prop} {w : World} : ∀ {ds : List Nd} {A : Option Addr} {i : Nat}, NdK S w ds A i → ∀ (j : Nat) (h : j < ds.length),
  ∃ (b o : Nat) (c0 c1 c2 c3 : Value), A = some ⟨b, o, none⟩ ∧ S b ∧ w.cell? ⟨b, o + (i + j) * 4, none⟩ = some c0 ∧ w.cell? ⟨b, o + (i + j) * 4 + 1, none⟩ = some c1 ∧
   w.cell? ⟨b, o + (i + j) * 4 + 2, none⟩ = some c2 ∧ w.cell? ⟨b, o + (i + j) * 4 + 3, none⟩ = some c3 ∧ NdC S w (ds[j]'h) c0 c1 c2 c3
 | d :: ds, A, i, h, 0, _ => by rw [NdK] at h; exact h.1
 | d :: ds, A, i, h, j + 1, hj => by
  rw [NdK] at h
  have := NdK.at_ h.2 j (Nat.lt_of_succ_lt_succ hj)
  rw [show i + (j + 1) = i + 1 + j by omega]
  exact this
theorem ndK_of {S : Nat → Prop} {w : World} {A : Option Addr} : ∀ (ds : List Nd) (i : Nat), (∀ (j : Nat) (h : j < ds.length),
  ∃ (b o : Nat) (c0 c1 c2 c3 : Value), A = some ⟨b, o, none⟩ ∧ S b ∧ w.cell? ⟨b, o + (i + j) * 4, none⟩ = some c0 ∧ w.cell? ⟨b, o + (i + j) * 4 + 1, none⟩ = some c1 ∧
   w.cell? ⟨b, o + (i + j) * 4 + 2, none⟩ = some c2 ∧ w.cell? ⟨b, o + (i + j) * 4 + 3, none⟩ = some c3 ∧ NdC S w (ds[j]'h) c0 c1 c2 c3) → NdK S w ds A i
 | [], i, _ => by rw [NdK]; trivial
 | d :: ds, i, h => by
  rw [NdK]
  refine ⟨h 0 (Nat.succ_pos _), ndK_of ds (i + 1) fun j hj => ?_⟩
  have := h (j + 1) (Nat.succ_lt_succ hj)
  rw [show i + 1 + j = i + (j + 1) by omega]
  exact this
def NdW (w : World) (d : Nd) (c0 c1 c2 c3 : Value) : Prop := NdC (· < w.heap.size) w d c0 c1 c2 c3
theorem NdW.below {w w' : World} {d : Nd} {c0 c1 c2 c3 : Value} (h : NdW w d c0 c1 c2 c3) (hb : Below w.heap.size w w') : NdW w' d c0 c1 c2 c3 :=
 NdC.keep (fun b hlt => ⟨Nat.lt_of_lt_of_le hlt hb.size, hb.block b hlt⟩) d h
theorem NdW.parts {w : World} {k : Int} {t : L8} {ks : List L8} {ds : List Nd} {c0 c1 c2 c3 : Value} (h : NdW w (.mk k t ks ds) c0 c1 c2 c3) :
  c0 = .int .i64 k ∧ c1 = .string (ba t) ∧ Rd w c2 ks ∧ ∃ (A : Option Addr) (cap : Nat), c3 = .slice A ds.length cap ∧ ds.length ≤ cap ∧ cap ≤ maxLen ∧ (A = none → cap = 0) ∧
   ∀ (j : Nat) (h : j < ds.length), ∃ (b o : Nat) (e0 e1 e2 e3 : Value), A = some ⟨b, o, none⟩ ∧ b < w.heap.size ∧ w.cell? ⟨b, o + j * 4, none⟩ = some e0 ∧ w.cell? ⟨b, o + j * 4 + 1, none⟩ = some e1 ∧
    w.cell? ⟨b, o + j * 4 + 2, none⟩ = some e2 ∧ w.cell? ⟨b, o + j * 4 + 3, none⟩ = some e3 ∧ NdW w (ds[j]'h) e0 e1 e2 e3 := by
 unfold NdW at h
 rw [NdC] at h
 obtain ⟨h0, h1, h2, A, cap, h3, h4, h5, h6, h7⟩ := h
 refine ⟨h0, h1, h2, A, cap, h3, h4, h5, h6, fun j hj => ?_⟩
 have := NdK.at_ h7 j hj
 rw [Nat.zero_add] at this
 exact this
theorem cell_lt {W : World} {p : Addr} {v : Value} (h : W.cell? p = some v) : p.block < W.heap.size := by
 rcases Nat.lt_or_ge p.block W.heap.size with h1 | h1
 ·exact h1
 ·have : W.heap[p.block]? = none := Array.getElem?_eq_none h1
  simp [World.cell?, this] at h
section
variable {H : Type} {enc : TypeId × Value → H} {W : World} {base : Nat} {spare : Nat → Bool} {held : Bool}
end
end
section
open Go.RowKit Go.Sort
open Nw Go.ChangeShapes Go.WideShapes
def BestIs (l : List L8) (k i : Nat) (bz : Int) : Prop :=
 (bz = -1 ∧ ∀ j (hj : j < l.length), j < i → ¬ cand l k l[j]) ∨
 (∃ b, ∃ hb : b < l.length, bz = b ∧ b < i ∧ cand l k l[b] ∧ ∀ j (hj : j < l.length), j < i → cand l k l[j] → l[b] ≤ l[j])
theorem BestIs.start (l : List L8) (k : Nat) : BestIs l k 0 (-1) := .inl ⟨rfl, fun j _ h => absurd h (Nat.not_lt_zero _)⟩
theorem BestIs.skip {l : List L8} {k i : Nat} {bz : Int} (h : BestIs l k i bz) (hi : i < l.length) (hn : ¬ cand l k l[i]) : BestIs l k (i + 1) bz := by
 rcases h with ⟨e, h⟩ | ⟨b, hb, e, hbi, hc, hmin⟩
 ·refine .inl ⟨e, fun j hj hji => ?_⟩
  rcases Nat.lt_succ_iff_lt_or_eq.1 hji with h1 | rfl
  ·exact h j hj h1
  ·exact hn
 ·refine .inr ⟨b, hb, e, by omega, hc, fun j hj hji hcj => ?_⟩
  rcases Nat.lt_succ_iff_lt_or_eq.1 hji with h1 | rfl
  ·exact hmin j hj h1 hcj
  ·exact absurd hcj hn
theorem BestIs.keep {l : List L8} {k i b : Nat} (hb : b < l.length) (h : BestIs l k i (b : Int)) (hi : i < l.length) (hn : ¬ l[i] < l[b]) : BestIs l k (i + 1) (b : Int) := by
 rcases h with ⟨e, _⟩ | ⟨b', hb', e, hbi, hc, hmin⟩
 ·omega
 ·obtain rfl : b = b' := by omega
  refine .inr ⟨b, hb, e, by omega, hc, fun j hj hji hcj => ?_⟩
  rcases Nat.lt_succ_iff_lt_or_eq.1 hji with h1 | rfl
  ·exact hmin j hj h1 hcj
  ·exact le_of_nlt hn
theorem BestIs.first {l : List L8} {k i : Nat} (h : BestIs l k i (-1)) (hi : i < l.length) (hc : cand l k l[i]) : BestIs l k (i + 1) (i : Int) := by
 rcases h with ⟨_, h⟩ | ⟨b, hb, e, _⟩
 ·refine .inr ⟨i, hi, rfl, by omega, hc, fun j hj hji hcj => ?_⟩
  rcases Nat.lt_succ_iff_lt_or_eq.1 hji with h1 | rfl
  ·exact absurd hcj (h j hj h1)
  ·exact List.le_refl _
 ·omega
theorem BestIs.less {l : List L8} {k i b : Nat} (hb : b < l.length) (h : BestIs l k i (b : Int)) (hi : i < l.length) (hc : cand l k l[i]) (hl : l[i] < l[b]) : BestIs l k (i + 1) (i : Int) := by
 rcases h with ⟨e, _⟩ | ⟨b', hb', e, hbi, hc', hmin⟩
 ·omega
 ·obtain rfl : b = b' := by omega
  refine .inr ⟨i, hi, rfl, by omega, hc, fun j hj hji hcj => ?_⟩
  rcases Nat.lt_succ_iff_lt_or_eq.1 hji with h1 | rfl
  ·exact List.le_trans (le_of_lt hl) (hmin j hj h1 hcj)
  ·exact List.le_refl _
theorem BestIs.done_none {l : List L8} {k : Nat} (hk : k ≤ (sortL l).length) (h : BestIs l k l.length (-1)) : k = (sortL l).length := by
 rcases h with ⟨_, h⟩ | ⟨b, hb, e, _⟩
 ·refine none_left hk fun y hy hc => ?_
  obtain ⟨j, hj, rfl⟩ := List.mem_iff_getElem.1 hy
  exact h j hj hj hc
 ·omega
theorem BestIs.done_some {l : List L8} {k b : Nat} (hk : k ≤ (sortL l).length) (hb : b < l.length) (h : BestIs l k l.length (b : Int)) : ∃ h : k < (sortL l).length, (sortL l)[k] = l[b] := by
 rcases h with ⟨e, _⟩ | ⟨b', hb', e, _, hc, hmin⟩
 ·omega
 ·obtain rfl : b = b' := by omega
  refine next_is hk (List.getElem_mem _) hc fun z hz hcz => ?_
  obtain ⟨j, hj, rfl⟩ := List.mem_iff_getElem.1 hz
  exact hmin j hj hj hcz
theorem BestIs.place {l : List L8} {k i : Nat} {bz : Int} (h : BestIs l k i bz) : bz = -1 ∨ ∃ b : Nat, bz = b ∧ b < l.length := by
 rcases h with ⟨e, _⟩ | ⟨b, hb, e, _⟩
 ·exact .inl e
 ·exact .inr ⟨b, e, hb⟩
theorem cand_zero (l : List L8) (y : L8) : cand l 0 y := .inl rfl
theorem cand_pos {l : List L8} {k : Nat} (hk : 0 < k) (hk' : k - 1 < (sortL l).length) (y : L8) : cand l k y ↔ (sortL l)[k - 1] < y := by
 unfold cand
 rw [List.getD_eq_getElem?_getD, List.getElem?_eq_getElem hk']
 exact ⟨fun h => by
  rcases h with h | h; · omega
  ·exact h, fun h => .inr h⟩
theorem owns_read {w : World} {base n : Nat} {e : TypeId} {v : Value} {l : List L8} (h : w.ownsRow base e 1 v n (l.map encStr)) :
  ∃ a cap, v = .slice a n cap ∧ n ≤ cap ∧ cap ≤ maxLen ∧ l.length = n ∧ (n = 0 ∨ ∃ g, a = some ⟨g, 0, none⟩ ∧ ∀ j (hj : j < l.length), w.cell? ⟨g, j, none⟩ = some (.string (ba l[j]))) := by
 have hl : l.length = n := by simpa using h.1
 have hc : ∀ (g len cap : Nat), v = .slice (some ⟨g, 0, none⟩) len cap → ∀ j (hj : j < l.length), w.cell? ⟨g, j, none⟩ = some (.string (ba l[j])) := fun g len cap hv j hj => by
  subst hv
  have := h.cells (g := g) rfl j (encStr l[j]) (by rw [List.getElem?_map, List.getElem?_eq_getElem hj]; rfl)
  rw [add_plain, Nat.zero_add] at this
  exact this
 rcases h.2 with ⟨e0, h0⟩ | ⟨g, cap, cur, hv, _, _, h1, h2, _⟩
 ·subst h0
  exact ⟨none, 0, e0, Nat.le_refl _, Nat.zero_le _, hl, .inl rfl⟩
 ·exact ⟨_, cap, hv, h1, h2, hl, .inr ⟨g, rfl, hc g n cap hv⟩⟩
theorem less_true {x y : L8} (h : x < y) : Op.bytesLess (ba x).toList (ba y).toList = true := by rw [ba_list, ba_list, bytesLess_eq]; exact decide_eq_true h
theorem less_false {x y : L8} (h : ¬ x < y) : Op.bytesLess (ba x).toList (ba y).toList = false := by rw [ba_list, ba_list, bytesLess_eq]; exact decide_eq_false h
theorem eq_true' {x y : L8} (h : x = y) : ((ba x).toList == (ba y).toList) = true := by rw [h]; exact beq_self_eq_true _
theorem eq_false' {x y : L8} (h : x ≠ y) : ((ba x).toList == (ba y).toList) = false := by rw [ba_list, ba_list]; exact beq_eq_false_iff_ne.2 h
end
section
open Go.RowKit Go.Sort
open Nw Go.ChangeShapes Go.WideShapes
theorem infoM : (Tryz.prog.info? 9).map (fun i => (i.zero, i.size, i.bytes)) = some (some (.string ByteArray.empty), 1, 16) := by kernel_rfl
theorem infoS : ∃ i, Tryz.prog.info? 9 = some i ∧ i.zero = some (.string ByteArray.empty) ∧ i.size = 1 ∧ i.bytes = 16 := by
 have h := infoM
 cases hi : Tryz.prog.info? 9 with
 | none => rw [hi] at h; cases h
 | some i =>
  rw [hi] at h
  simp only [Option.map_some, Option.some.injEq, Prod.mk.injEq] at h
  exact ⟨i, rfl, h.1, h.2.1, h.2.2⟩
theorem own_literal (w : World) (base : Nat) (hb : base ≤ w.heap.size) : (w.alloc (.cells #[] 9)).ownsRow base 9 1 (.slice (some ⟨w.heap.size, 0, none⟩) 0 0) 0 [] :=
 ⟨rfl, .inr ⟨w.heap.size, 0, #[], rfl, hb, Array.getElem?_push_size (xs := w.heap), Nat.le_refl _, Nat.zero_le _, rfl, rfl⟩⟩
theorem drewN_cell (w : World) (q : Nat) (p : Addr) : (w.drewN q).cell? p = w.cell? p := rfl
theorem drewN_drewN (w : World) (q n : Nat) : (w.drewN q).drewN n = w.drewN (q + n) := by
 unfold World.drewN
 simp [Nat.add_assoc]
theorem RSorted_own (v : Value) (l : List L8) (w : World) (h : Rd w v l) (hbig : l.length ≤ 4398046511103) :
  Calls Tryz.prog 70 #[v] w fun e w' => ∃ v', e = .returned v' ∧ w'.ownsRow w.heap.size 9 1 v' (sortL l).length ((sortL l).map encStr) ∧ Below w.heap.size w w' := by
 obtain ⟨i0, hi, hz0, hz1, hz2⟩ := infoS
 obtain ⟨a, cap, rfl, h1, h2, h3⟩ := h
 obtain ⟨S, hS⟩ : ∃ S, S = sortL l := ⟨_, rfl⟩
 have HS := hid hS
 have hSl : S.length ≤ l.length := by rw [hS]; exact sortL_length_le l
 rw [← hS]
 clear hS
 unfold maxLen at h2
 have H3 := hid h3
 clear h3
 go_enter Tryz.func70, Tryz.ntmps70
 go_wp2
 go_loopg [3, 4, 5] S.length (fun gg v3 v4 v5 wr => ∃ k : Nat, k ≤ S.length ∧ S.length - k ≤ gg ∧ wr.ownsRow w.heap.size 9 1 v3 k ((S.take k).map encStr) ∧ Below w.heap.size w wr)
 case atStart => exact ⟨0, Nat.zero_le _, by omega, own_literal w _ (Nat.le_refl _), (Below.refl _ _).alloc (Nat.le_refl _) _⟩
 case round =>
  obtain ⟨k, hk, hgg, hown, hbel⟩ := hrel
  obtain ⟨w0, hw0⟩ : ∃ w0, w0 = wr := ⟨_, rfl⟩
  subst hw0
  have HW := hid hown
  have HL := hid hbel
  obtain ⟨a3, cap3, rfl, k1, k2, k3, k4⟩ := owns_read hown
  unfold maxLen at k2
  have K4 := hid k4
  clear hown hbel k4
  go_wp2
  go_loopw [4, 5] (fun best i wi => ∃ (j : Nat) (bz : Int) (q : Nat), j ≤ l.length ∧ i = .int .i64 j ∧ best = .int .i64 bz ∧ BestIs l k j bz ∧ wi = w0.drewN q) (fun _ i _ => l.length - (intOf i).toNat)
  case atStart => exact ⟨0, -1, 0, Nat.zero_le _, rfl, rfl, BestIs.start l k, rfl⟩
  case round =>
   obtain ⟨j, bz, q, hj, rfl, rfl, hbest, hwi⟩ := hrel
   have HBI := hid hbest
   have HWI := hid hwi
   clear hbest hwi
   by_cases hlt : j < l.length
   ·rcases H3.out with ⟨e0, _⟩ | ⟨b, o, ha, h4, h5⟩
    ·rw [e0] at hlt; exact absurd hlt (Nat.not_lt_zero _)
    subst ha
    have hcAt : ∀ (n : Nat) (hn : n < l.length), wr.cell? ⟨b, o + n, none⟩ = some (.string (ba l[n])) := fun n hn => by rw [HWI.out, drewN_cell]; exact (HL.out.cell (p := ⟨b, o + n, none⟩) h4).trans (h5 n hn)
    have HCA := hid hcAt
    have hc := hcAt j hlt
    clear h5 hcAt
    have hltz : (j : Int) < (l.length : Int) := by omega
    by_cases hk0 : k = 0
    ·have hk0z : ((k : Int) == 0) = true := by rw [hk0]; rfl
     have HCand : Hid (cand l k l[j]) := hid (by rw [hk0]; exact cand_zero _ _)
     clear hk0
     rcases HBI.out.place with hbz | ⟨b2, hbz, hb2⟩
     ·subst hbz
      generalize ba l[j] = X at hc
      go_wp2
      go_quiet (fail)
      go_wp2
      go_roundw
      case rel => exact ⟨j + 1, (j : Int), q + nq, by omega, by go_num, rfl, HBI.out.first hlt HCand.out, by rw [HWI.out]; exact drewN_drewN _ _ _⟩
      case measure => simp [intOf]; omega
     ·subst hbz
      have hc2 := HCA.out b2 hb2
      have hn1 : decide ((b2 : Int) < 0) = false := decide_eq_false (by omega)
      have hb2z : (b2 : Int) < (l.length : Int) := by omega
      by_cases hll : l[j] < l[b2]
      ·have HLL := hid hll
       have t1 := less_true hll
       clear hll
       generalize ba l[j] = X at hc t1
       generalize ba l[b2] = Y at hc2 t1
       go_wp2
       go_quiet (fail)
       go_wp2
       go_roundw
       case rel => exact ⟨j + 1, (j : Int), q + nq, by omega, by go_num, rfl, HBI.out.less hb2 hlt HCand.out HLL.out, by rw [HWI.out]; exact drewN_drewN _ _ _⟩
       case measure => simp [intOf]; omega
      ·have HLL := hid hll
       have t1 := less_false hll
       clear hll
       generalize ba l[j] = X at hc t1
       generalize ba l[b2] = Y at hc2 t1
       go_wp2
       go_quiet (fail)
       go_wp2
       go_roundw
       case rel => exact ⟨j + 1, (b2 : Int), q + nq, by omega, by go_num, rfl, HBI.out.keep hb2 hlt HLL.out, by rw [HWI.out]; exact drewN_drewN _ _ _⟩
       case measure => simp [intOf]; omega
    ·have hk0z : ((k : Int) == 0) = false := beq_eq_false_iff_ne.2 (by omega)
     have hkS : Hid (k - 1 < S.length) := hid (by omega)
     rcases K4.out with e0 | ⟨g, ha3, k5⟩
     ·exact absurd e0 hk0
     subst ha3
     have hout : wr.cell? ⟨g, k - 1, none⟩ = some (.string (ba (S[k - 1]'hkS.out))) := by
      rw [HWI.out, drewN_cell]
      have := k5 (k - 1) (by rw [List.length_take]; omega)
      rw [List.getElem_take] at this
      exact this
     clear k5
     have HCP : Hid (cand l k l[j] ↔ S[k - 1]'hkS.out < l[j]) := hid (by have := cand_pos (l := l) (k := k) (by omega) (by rw [← HS.out]; exact hkS.out) l[j]; rw [this]; simp [HS.out])
     have c1 : (0 : Int) ≤ (k : Int) - 1 := by omega
     have c2 : ((k : Int) - 1).toNat = k - 1 := by omega
     have c3 : k - 1 < k := by omega
     have c4 : (1 : Int) ≤ (k : Int) := by omega
     have c7 : (k : Int) - 1 < (k : Int) := by omega
     have c5 : 0 < k := by omega
     have c6 : IntKind.i64.wrap ((k : Int) - 1) = (k : Int) - 1 := wrap_small _ (by omega) (by omega)
     have hS1 : k - 1 + 1 = k := by omega
     generalize (S[k - 1]'hkS.out) = s0 at hout HCP
     by_cases hgt : s0 < l[j]
     ·have HCand : Hid (cand l k l[j]) := hid (HCP.out.2 hgt)
      have u1 : Op.bytesLess (ba l[j]).toList (ba s0).toList = false := less_false fun h => lt_irr _ (lt_tr h hgt)
      have u2 : ((ba l[j]).toList == (ba s0).toList) = false := eq_false' fun h => by rw [h] at hgt; exact lt_irr _ hgt
      clear hgt
      generalize ba s0 = Z at hout u1 u2
      rcases HBI.out.place with hbz | ⟨b2, hbz, hb2⟩
      ·subst hbz
       generalize ba l[j] = X at hc u1 u2
       go_wp2
       go_quiet (fail)
       go_wp2
       go_roundw
       case rel => exact ⟨j + 1, (j : Int), q + nq, by omega, by go_num, rfl, HBI.out.first hlt HCand.out, by rw [HWI.out]; exact drewN_drewN _ _ _⟩
       case measure => simp [intOf]; omega
      ·subst hbz
       have hc2 := HCA.out b2 hb2
       have hn1 : decide ((b2 : Int) < 0) = false := decide_eq_false (by omega)
       have hb2z : (b2 : Int) < (l.length : Int) := by omega
       by_cases hll : l[j] < l[b2]
       ·have HLL := hid hll
        have t1 := less_true hll
        clear hll
        generalize ba l[j] = X at hc t1 u1 u2
        generalize ba l[b2] = Y at hc2 t1
        go_wp2
        go_quiet (fail)
        go_wp2
        go_roundw
        case rel => exact ⟨j + 1, (j : Int), q + nq, by omega, by go_num, rfl, HBI.out.less hb2 hlt HCand.out HLL.out, by rw [HWI.out]; exact drewN_drewN _ _ _⟩
        case measure => simp [intOf]; omega
       ·have HLL := hid hll
        have t1 := less_false hll
        clear hll
        generalize ba l[j] = X at hc t1 u1 u2
        generalize ba l[b2] = Y at hc2 t1
        go_wp2
        go_quiet (fail)
        go_wp2
        go_roundw
        case rel => exact ⟨j + 1, (b2 : Int), q + nq, by omega, by go_num, rfl, HBI.out.keep hb2 hlt HLL.out, by rw [HWI.out]; exact drewN_drewN _ _ _⟩
        case measure => simp [intOf]; omega
     ·have HN : Hid (¬ cand l k l[j]) := hid fun h => hgt (HCP.out.1 h)
      by_cases heq : l[j] = s0
      ·have u2 := eq_true' heq
       clear hgt heq
       generalize ba s0 = Z at hout u2
       generalize ba l[j] = X at hc u2
       go_wp2
       go_quiet (fail)
       go_wp2
       go_roundw
       case rel => exact ⟨j + 1, bz, q + nq, by omega, by go_num, rfl, HBI.out.skip hlt HN.out, by rw [HWI.out]; exact drewN_drewN _ _ _⟩
       case measure => simp [intOf]; omega
      ·have u2 := eq_false' heq
       have u1 : Op.bytesLess (ba l[j]).toList (ba s0).toList = true := less_true (lt_of_le_ne (le_of_nlt hgt) heq)
       clear hgt heq
       generalize ba s0 = Z at hout u1 u2
       generalize ba l[j] = X at hc u1 u2
       go_wp2
       go_quiet (fail)
       go_wp2
       go_roundw
       case rel => exact ⟨j + 1, bz, q + nq, by omega, by go_num, rfl, HBI.out.skip hlt HN.out, by rw [HWI.out]; exact drewN_drewN _ _ _⟩
       case measure => simp [intOf]; omega
   ·obtain rfl : j = l.length := by omega
    rcases HBI.out.place with hbz | ⟨b2, hbz, hb2⟩
    ·subst hbz
     have hkk : k = (sortL l).length := HBI.out.done_none (by rw [← HS.out]; exact hk)
     have HKK := hid hkk
     clear hkk
     go_wp2
     go_ret
     refine ⟨_, rfl, ?_, ?_⟩
     ·have := HW.out
      have e : k = S.length := by rw [HS.out]; exact HKK.out
      rw [e, List.take_length] at this
      rw [HWI.out, ← e]
      rw [← e] at this
      exact this
     ·rw [HWI.out]; exact HL.out.trans ((below_drewN _ _).mono HL.out.size)
    ·subst hbz
     have hn1 : decide ((b2 : Int) < 0) = false := decide_eq_false (by omega)
     rcases H3.out with ⟨e0, _⟩ | ⟨b, o, ha, h4, h5⟩
     ·rw [e0] at hb2; exact absurd hb2 (Nat.not_lt_zero _)
     subst ha
     have hc2 : wr.cell? ⟨b, o + b2, none⟩ = some (.string (ba l[b2])) := by rw [HWI.out, drewN_cell]; exact (HL.out.cell (p := ⟨b, o + b2, none⟩) h4).trans (h5 b2 hb2)
     clear h5
     have hb2z : (b2 : Int) < (l.length : Int) := by omega
     obtain ⟨hks, hnext⟩ := HBI.out.done_some (by rw [← HS.out]; exact hk) hb2
     have hks' : Hid (k < S.length) := hid (by rw [HS.out]; exact hks)
     have HX : Hid ((S.take (k + 1)).map encStr = (S.take k).map encStr ++ [.string (ba l[b2])]) := hid (by
      rw [List.take_succ_eq_append_getElem hks'.out, List.map_append, ← hnext]
      simp only [HS.out]
      rfl)
     clear hnext hks
     generalize ba l[b2] = X at hc2 HX
     have hown : wr.ownsRow w.heap.size 9 1 (.slice a3 k cap3) k ((S.take k).map encStr) := by rw [HWI.out]; exact HW.out
     have HL2 : Hid (Below w.heap.size w wr) := hid (by rw [HWI.out]; exact HL.out.trans ((below_drewN _ _).mono HL.out.size))
     have HO := hid hown
     obtain ⟨XS, hXS⟩ : ∃ XS, XS = (S.take k).map encStr := ⟨_, rfl⟩
     rw [← hXS] at hown
     have HXS := hid hXS
     clear hXS
     go_wp2_with (at_builtin; refine wpList_append_own _ rfl _ _ 23 rfl w.heap.size 9 i0 _ 1 16 Tryz.underlying23 hi hz0 hz1 hz2 rfl (by decide) _ _ _ rfl (hown.alloc _) ⟨wr.heap.size, 0, none⟩ 1 1 [.string X] rfl rfl ?c1 ?c2 ?c3 ?c4 ?c5 ?_)
     case c1 =>
      intro j u hj
      match j, hj with
      | 0, hj => simp at hj; subst hj; simp [Addr.add]
     case c2 => intro u hu; simp at hu; subst hu; rfl
     case c3 => unfold maxLen; omega
     case c4 => omega
     case c5 => have := HL2.out.size; simp; omega
     ·intro v' w2 hown' hgrow _
      have HW2 := hid hown'
      have HG2 := hid hgrow
      clear hown' hgrow hown
      go_wp2
      go_roundg (S.length - (k + 1))
      case measure => have := hks'.out; omega
      case rel =>
       refine ⟨k + 1, hks'.out, Nat.le_refl _, ?_, ?_⟩
       ·rw [HX.out, ← HXS.out]; exact HW2.out
       ·refine (HL2.out.alloc HL2.out.size _).grown HG2.out (by have := HL2.out.size; simp; omega) ?_
        intro p hp
        exact (HO.out.lt p hp).1
end
end Go.Proofs.YtecglpocmhkkiaaGreatDoor
