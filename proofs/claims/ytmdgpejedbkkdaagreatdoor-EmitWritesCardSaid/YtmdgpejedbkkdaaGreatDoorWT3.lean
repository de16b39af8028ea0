/- NodMem, EmiIter, NodOpen -/
import Derived.Laws.OwnMore
import Derived.LoopIn
import Derived.LoopNIn
import Derived.OpenShut
import Derived.OwnWalkIn
import Derived.ProofKit
import Derived.RangeFuncBound
import Derived.RangeFuncLeaves
import Derived.RangeFuncNested
import Derived.Shelf.Abstract
import Derived.SliceStrings
import Derived.TacticsInMore
import Derived.Test.YtmdgpejedbkkdaaGreatDoorWT1
import Derived.Test.YtmdgpejedbkkdaaGreatDoorWT2
set_option linter.unusedVariables false
set_option linter.unusedSimpArgs false
set_option maxRecDepth 100000
set_option maxHeartbeats 16000000
namespace Go.Proofs.YtmdgpejedbkkdaaGreatDoor
section
open Go.RowKit Go.Sort
open Nw N8 Go.ChangeShapes Go.WideShapes
def RdS (S : Nat → Prop) (w : World) (v : Value) (l : List L8) : Prop :=
 ∃ (a : Option Addr) (cap : Nat), v = .slice a l.length cap ∧ l.length ≤ cap ∧ cap ≤ maxLen ∧
  ((l = [] ∧ (a = none → cap = 0)) ∨ ∃ b o, a = some ⟨b, o, none⟩ ∧ S b ∧ ∀ j (h : j < l.length), w.cell? ⟨b, o + j, none⟩ = some (.string (ba l[j])))
theorem RdS.keep {S T : Nat → Prop} {w w' : World} {v : Value} {l : List L8} (h : RdS S w v l) (hk : ∀ b, S b → T b ∧ w'.heap[b]? = w.heap[b]?) : RdS T w' v l := by
 obtain ⟨a, cap, rfl, h1, h2, h3⟩ := h
 refine ⟨a, cap, rfl, h1, h2, ?_⟩
 rcases h3 with h3 | ⟨b, o, rfl, h4, h5⟩
 ·exact .inl h3
 ·exact .inr ⟨b, o, rfl, (hk b h4).1, fun j hj => (World.cell?_of_block (hk b h4).2).trans (h5 j hj)⟩
mutual
def NdC (S : Nat → Prop) (w : World) : Nd → Value → Value → Value → Value → Prop
 | .mk k t ks ds, c0, c1, c2, c3 => c0 = .int .i64 k ∧ c1 = .string (ba t) ∧ RdS S w c2 ks ∧
   ∃ (A : Option Addr) (cap : Nat), c3 = .slice A ds.length cap ∧ ds.length ≤ cap ∧ cap ≤ maxLen ∧ (A = none → cap = 0) ∧ NdK S w ds A 0
def NdK (S : Nat → Prop) (w : World) : List Nd → Option Addr → Nat → Prop
 | [], _, _ => True
 | d :: ds, A, i => (∃ (b o : Nat) (c0 c1 c2 c3 : Value), A = some ⟨b, o, none⟩ ∧ S b ∧ w.cell? ⟨b, o + i * 4, none⟩ = some c0 ∧ w.cell? ⟨b, o + i * 4 + 1, none⟩ = some c1 ∧
   w.cell? ⟨b, o + i * 4 + 2, none⟩ = some c2 ∧ w.cell? ⟨b, o + i * 4 + 3, none⟩ = some c3 ∧ NdC S w d c0 c1 c2 c3) ∧ NdK S w ds A (i + 1)
end
mutual
theorem NdC.keep {S T : Nat → Prop} {w w' : World} (hk : ∀ b, S b → T b ∧ w'.heap[b]? = w.heap[b]?) : ∀ (d : Nd) {c0 c1 c2 c3 : Value}, NdC S w d c0 c1 c2 c3 → NdC T w' d c0 c1 c2 c3
 | .mk k t ks ds, c0, c1, c2, c3, h => by
  rw [NdC] at h ⊢
  obtain ⟨h0, h1, h2, A, cap, h3, h4, h5, h6, h7⟩ := h
  exact ⟨h0, h1, h2.keep hk, A, cap, h3, h4, h5, h6, NdK.keep hk ds h7⟩
theorem NdK.keep {S T : Nat → Prop} {w w' : World} (hk : ∀ b, S b → T b ∧ w'.heap[b]? = w.heap[b]?) : ∀ (ds : List Nd) {A : Option Addr} {i : Nat}, NdK S w ds A i → NdK T w' ds A i
 | [], A, i, _ => by rw [NdK]; trivial
 | d :: ds, A, i, h => by
  rw [NdK] at h ⊢
  obtain ⟨⟨b, o, c0, c1, c2, c3, hA, hS, e0, e1, e2, e3, hd⟩, hds⟩ := h
  exact ⟨⟨b, o, c0, c1, c2, c3, hA, (hk b hS).1, (World.cell?_of_block (hk b hS).2).trans e0, (World.cell?_of_block (hk b hS).2).trans e1, (World.cell?_of_block (hk b hS).2).trans e2, (World.cell?_of_block (hk b hS).2).trans e3, NdC.keep hk d hd⟩, NdK.keep hk ds hds⟩
end
theorem NdK.at_ {S : Nat → Prop} {w : World} : ∀ {ds : List Nd} {A : Option Addr} {i : Nat}, NdK S w ds A i → ∀ (j : Nat) (h : j < ds.length),
  ∃ (b o : Nat) (c0 c1 c2 c3 : Value), A = some ⟨b, o, none⟩ ∧ S b ∧ w.cell? ⟨b, o + (i + j) * 4, none⟩ = some c0 ∧ w.cell? ⟨b, o + (i + j) * 4 + 1, none⟩ = some c1 ∧
   w.cell? ⟨b, o + (i + j) * 4 + 2, none⟩ = some c2 ∧ w.cell? ⟨b, o + (i + j) * 4 + 3, none⟩ = some c3 ∧ NdC S w (ds[j]'h) c0 c1 c2 c3
 | d :: ds, A, i, h, 0, _ => by rw [NdK] at h; exact h.1
 | d :: ds, A, i, h, j + 1, hj => by
  rw [NdK] at h
  have := NdK.at_ h.2 j (Nat.lt_of_succ_lt_succ hj)
  rw [show i + (j + 1) = i + 1 + j by omega]
  exact this
theorem ndK_of {S : Nat → Prop} {w : World} {A : Option Addr} : ∀ (ds : List Nd) (i : Nat), (∀ (j : Nat) (h : j < ds.length),
  ∃ (b o : Nat) (c0 c1 c2 c3 : Value), A = some ⟨b, o, none⟩ ∧ S b ∧ w.cell? ⟨b, o + (i + j) * 4, none⟩ = some c0 ∧ w.cell? ⟨b, o + (i + j) * 4 + 1, none⟩ = some c1 ∧
   w.cell? ⟨b, o + (i + j) * 4 + 2, none⟩ = some c2 ∧ w.cell? ⟨b, o + (i + j) * 4 + 3, none⟩ = some c3 ∧ NdC S w (ds[j]'h) c0 c1 c2 c3) → NdK S w ds A i
 | [], i, _ => by rw [NdK]; trivial
 | d :: ds, i, h => by
  rw [NdK]
  refine ⟨h 0 (Nat.succ_pos _), ndK_of ds (i + 1) fun j hj => ?_⟩
  have := h (j + 1) (Nat.succ_lt_succ hj)
  rw [show i + 1 + j = i + (j + 1) by omega]
  exact this
def NdW (w : World) (d : Nd) (c0 c1 c2 c3 : Value) : Prop := NdC (· < w.heap.size) w d c0 c1 c2 c3
theorem NdW.below {w w' : World} {d : Nd} {c0 c1 c2 c3 : Value} (h : NdW w d c0 c1 c2 c3) (hb : Below w.heap.size w w') : NdW w' d c0 c1 c2 c3 :=
 NdC.keep (fun b hlt => ⟨Nat.lt_of_lt_of_le hlt hb.size, hb.block b hlt⟩) d h
theorem NdW.parts {w : World} {k : Int} {t : L8} {ks : List L8} {ds : List Nd} {c0 c1 c2 c3 : Value} (h : NdW w (.mk k t ks ds) c0 c1 c2 c3) :
  c0 = .int .i64 k ∧ c1 = .string (ba t) ∧ Rd w c2 ks ∧ ∃ (A : Option Addr) (cap : Nat), c3 = .slice A ds.length cap ∧ ds.length ≤ cap ∧ cap ≤ maxLen ∧ (A = none → cap = 0) ∧
   ∀ (j : Nat) (h : j < ds.length), ∃ (b o : Nat) (e0 e1 e2 e3 : Value), A = some ⟨b, o, none⟩ ∧ b < w.heap.size ∧ w.cell? ⟨b, o + j * 4, none⟩ = some e0 ∧ w.cell? ⟨b, o + j * 4 + 1, none⟩ = some e1 ∧
    w.cell? ⟨b, o + j * 4 + 2, none⟩ = some e2 ∧ w.cell? ⟨b, o + j * 4 + 3, none⟩ = some e3 ∧ NdW w (ds[j]'h) e0 e1 e2 e3 := by
 unfold NdW at h
 rw [NdC] at h
 obtain ⟨h0, h1, h2, A, cap, h3, h4, h5, h6, h7⟩ := h
 refine ⟨h0, h1, h2, A, cap, h3, h4, h5, h6, fun j hj => ?_⟩
 have := NdK.at_ h7 j hj
 rw [Nat.zero_add] at this
 exact this
theorem list_of {P : Nat → Nd → Prop} : ∀ (n : Nat), (∀ i, i < n → ∃ d, P i d) → ∃ ds : List Nd, ds.length = n ∧ ∀ (i : Nat) (h : i < ds.length), P i (ds[i]'h)
 | 0, _ => ⟨[], rfl, fun i h => absurd h (Nat.not_lt_zero _)⟩
 | n + 1, h => by
  obtain ⟨ds, hl, hp⟩ := list_of n fun i hi => h i (by omega)
  obtain ⟨d, hd⟩ := h n (by omega)
  refine ⟨ds ++ [d], by rw [List.length_append, hl]; rfl, fun i hi => ?_⟩
  by_cases hin : i < ds.length
  ·rw [List.getElem_append_left hin]; exact hp i hin
  ·have : i = n := by rw [List.length_append] at hi; have : i < ds.length + 1 := hi; omega
   subst this
   rw [List.getElem_append_right (by omega)]
   simp only [hl, Nat.sub_self, List.getElem_cons_zero]
   exact hd
theorem cell_lt {W : World} {p : Addr} {v : Value} (h : W.cell? p = some v) : p.block < W.heap.size := by
 rcases Nat.lt_or_ge p.block W.heap.size with h1 | h1
 ·exact h1
 ·have : W.heap[p.block]? = none := Array.getElem?_eq_none h1
  simp [World.cell?, this] at h
theorem rd_of_strings {W : World} {x : Addr} {n c : Nat} {ss : List ByteArray} (hl : n ≤ c) (hm : c ≤ maxLen) (hz : n ≤ ss.length)
  (hcell : ∀ i, i < ss.length → W.cell? (x.add i) = some (.string (ss.getD i ByteArray.empty))) : ∃ l, Rd W (.slice (some x) n c) l := by
 have hlen : ((ss.take n).map (·.data.toList)).length = n := by simp; omega
 refine ⟨(ss.take n).map (·.data.toList), some x, c, by rw [hlen], by rw [hlen]; exact hl, hm, ?_⟩
 by_cases h0 : n = 0
 ·subst h0
  exact .inl ⟨by simp, fun h => by cases h⟩
 ·obtain ⟨b, o, spot⟩ := x
  have hspot : spot = none := by simpa [Addr.add] using World.cell?_spot (hcell 0 (by omega))
  subst hspot
  have h1 := hcell 0 (by omega)
  rw [add_plain] at h1
  refine .inr ⟨b, o, rfl, cell_lt h1, fun j hj => ?_⟩
  have hj' : j < n := by rw [hlen] at hj; exact hj
  have := hcell j (by omega)
  rw [add_plain] at this
  rw [this]
  have e : ba ((ss.take n).map (·.data.toList))[j] = ss.getD j ByteArray.empty := by
   rw [List.getElem_map, ba_of, List.getElem_take, List.getD_eq_getElem?_getD, List.getElem?_eq_getElem (by omega)]
   rfl
  rw [e]
section
variable {H : Type} {enc : TypeId × Value → H} {W : World} {base : Nat} {spare : Nat → Bool} {held : Bool}
theorem four {α : Type} : ∀ {cs : List α}, cs.length = 4 → ∃ a b c d, cs = [a, b, c, d]
 | [a, b, c, d], _ => ⟨a, b, c, d, rfl⟩
theorem nd_of_trod (N : Nat) : ∀ (fuel : Nat), fuel ≤ N → ∀ (cs : List Value) (x : DataW H × List MemPlace), DataW.trod enc Tryz.prog W base spare held fuel 25 cs = some x →
  ∃ (d : Nd) (c0 c1 c2 c3 : Value), cs = [c0, c1, c2, c3] ∧ NdW W d c0 c1 c2 c3 := by
 induction N with
 | zero =>
  intro fuel hf cs x h
  obtain ⟨xs, n, hn, _⟩ := DataW.trod_struct Tryz.underlying25 h
  omega
 | succ N ih =>
  intro fuel hf cs x h
  obtain ⟨xs, n, hn, _, hlen, hxl0, hfld⟩ := DataW.trod_struct Tryz.underlying25 h
  have hlen4 : cs.length = 4 := hlen.trans (by kernel_rfl)
  obtain ⟨c0, c1, c2, c3, rfl⟩ := four hlen4
  have hxl : xs.length = 4 := hxl0
  obtain ⟨y0, y1, y2, y3, rfl⟩ := four hxl
  have o0 : Tryz.prog.cellsOf 3 = 1 := by kernel_rfl
  have o1 : Tryz.prog.cellsOf 9 = 1 := by kernel_rfl
  have o2 : Tryz.prog.cellsOf 22 = 1 := by kernel_rfl
  have o3 : Tryz.prog.cellsOf 23 = 1 := by kernel_rfl
  have f0 : DataW.trod enc Tryz.prog W base spare held n 3 [c0] = some y0 := by have := hfld 0 _ rfl; simpa [o0] using this
  have f1 : DataW.trod enc Tryz.prog W base spare held n 9 [c1] = some y1 := by have := hfld 1 _ rfl; simpa [o1] using this
  have f2 : DataW.trod enc Tryz.prog W base spare held n 22 [c2] = some y2 := by have := hfld 2 _ rfl; simpa [o2] using this
  have f3 : DataW.trod enc Tryz.prog W base spare held n 23 [c3] = some y3 := by have := hfld 3 _ rfl; simpa [o3] using this
  obtain ⟨k, h0, _, _⟩ := DataW.trod_int Tryz.underlying3 f0
  obtain ⟨s, h1, _, hs⟩ := DataW.trod_string Tryz.underlying9 f1
  injection h0 with h0
  injection h1 with h1
  subst h0; subst h1
  have hks : ∃ ks, Rd W c2 ks := by
   rcases open_strings Tryz.underlying22 Tryz.underlying9 (by kernel_rfl) f2 with ⟨hcs, _⟩ | ⟨a, len, cap, ss, hcs, _, hl, hm, hz, _, hcell, _⟩
   ·injection hcs with hcs
    subst hcs
    exact ⟨[], rd_empty W none 0 (Nat.zero_le _) fun _ => rfl⟩
   ·injection hcs with hcs
    subst hcs
    refine rd_of_strings hl hm ?_ hcell
    rw [hz]; split <;> omega
  obtain ⟨ks, hks⟩ := hks
  have hds : ∃ (ds : List Nd) (A : Option Addr) (cap : Nat), c3 = .slice A ds.length cap ∧ ds.length ≤ cap ∧ cap ≤ maxLen ∧ (A = none → cap = 0) ∧ NdK (· < W.heap.size) W ds A 0 := by
   rcases DataW.trod_slice Tryz.underlying23 f3 with ⟨hcs, _⟩ | ⟨a, len, cap, elems, rest, n', hn', hcs, _, hb, hl, hm, hel, hget, _⟩
   ·injection hcs with hcs
    subst hcs
    exact ⟨[], none, 0, rfl, Nat.zero_le _, Nat.zero_le _, fun _ => rfl, by rw [NdK]; trivial⟩
   ·injection hcs with hcs
    subst hcs
    have h4 : Tryz.prog.cellsOf 25 = 4 := by kernel_rfl
    have hsp : 0 < len → a.spot = none := by
     intro h0
     have hg := hget 0 h0
     rw [List.getElem?_eq_getElem (by omega), h4] at hg
     cases hc : W.cells? base (a.add (0 * 4)) 4 with
     | none => rw [hc] at hg; cases hg
     | some cs' =>
      obtain ⟨_, hl4, hat⟩ := World.cells?_some hc
      have a0 := hat 0 (by omega)
      rw [List.getElem?_eq_getElem (by omega)] at a0
      have := World.cell?_spot a0
      simpa [Addr.add] using this
    have key : ∀ i, i < len → ∃ d : Nd, ∃ (b o : Nat) (e0 e1 e2 e3 : Value), some a = some ⟨b, o, none⟩ ∧ b < W.heap.size ∧ W.cell? ⟨b, o + (0 + i) * 4, none⟩ = some e0 ∧ W.cell? ⟨b, o + (0 + i) * 4 + 1, none⟩ = some e1 ∧
      W.cell? ⟨b, o + (0 + i) * 4 + 2, none⟩ = some e2 ∧ W.cell? ⟨b, o + (0 + i) * 4 + 3, none⟩ = some e3 ∧ NdC (· < W.heap.size) W d e0 e1 e2 e3 := by
     intro i hi
     have hg := hget i hi
     rw [List.getElem?_eq_getElem (by omega)] at hg
     rw [h4] at hg
     have hsp0 := hsp (by omega)
     cases hc : W.cells? base (a.add (i * 4)) 4 with
     | none => rw [hc] at hg; cases hg
     | some cs' =>
      rw [hc] at hg
      obtain ⟨d, e0, e1, e2, e3, rfl, hd⟩ := ih n' (by omega) cs' _ hg
      obtain ⟨_, _, hat⟩ := World.cells?_some hc
      obtain ⟨b, o, spot⟩ := a
      have a0 := hat 0 (by omega)
      have a1 := hat 1 (by omega)
      have a2 := hat 2 (by omega)
      have a3 := hat 3 (by omega)
      have hspot : spot = none := hsp0
      subst hspot
      rw [add_plain, add_plain] at a0 a1 a2 a3
      refine ⟨d, b, o, e0, e1, e2, e3, rfl, ?_, ?_, ?_, ?_, ?_, hd⟩
      ·exact cell_lt (p := ⟨b, o + i * 4 + 0, none⟩) (v := e0) (by rw [a0]; rfl)
      ·rw [Nat.zero_add]; exact a0
      ·rw [Nat.zero_add]; exact a1
      ·rw [Nat.zero_add]; exact a2
      ·rw [Nat.zero_add]; exact a3
    obtain ⟨ds, hdl, hdp⟩ := list_of len key
    refine ⟨ds, some a, cap, by rw [hdl], by rw [hdl]; exact hl, hm, fun h => (by cases h), ndK_of ds 0 hdp⟩
  obtain ⟨ds, A, cap, hc3, hl1, hl2, hl3, hl4⟩ := hds
  refine ⟨.mk k s.data.toList ks ds, _, _, _, _, rfl, ?_⟩
  unfold NdW
  rw [NdC]
  exact ⟨rfl, by rw [ba_of], hks, A, cap, hc3, hl1, hl2, hl3, hl4⟩
end
end
section
open Go.RowKit
open Nw N8
def rowOf (t : TypeId) : Obj → Bool
 | .cells _ t' _ => t' == t
 | _ => false
structure Turned (t : TypeId) (B : Nat) (W W' : World) : Prop where
 os : W'.os = W.os
 tape : W'.tape = W.tape
 output : W'.output = W.output
 size : W.heap.size ≤ W'.heap.size
 same : ∀ (k : Nat) (o : Obj), W.heap[k]? = some o → (k < B ∨ rowOf t o = true) → W'.heap[k]? = some o
structure Kept (t : TypeId) (n0 C B : Nat) (W W' : World) : Prop where
 os : W'.os = W.os
 tape : W'.tape = W.tape
 output : W'.output = W.output
 size : W.heap.size ≤ W'.heap.size
 same : ∀ (k : Nat) (o : Obj), W.heap[k]? = some o → (k < n0 ∨ (C ≤ k ∧ o.isCells = true ∧ rowOf t o = false) ∨ (B ≤ k ∧ rowOf t o = false)) → W'.heap[k]? = some o
theorem Turned.refl (t : TypeId) (B : Nat) (W : World) : Turned t B W W := ⟨rfl, rfl, rfl, Nat.le_refl _, fun _ _ h _ => h⟩
theorem Turned.trans {t : TypeId} {B : Nat} {W1 W2 W3 : World} (h : Turned t B W1 W2) (k : Turned t B W2 W3) : Turned t B W1 W3 :=
 ⟨k.os.trans h.os, k.tape.trans h.tape, k.output.trans h.output, Nat.le_trans h.size k.size, fun i o hi ho => k.same i o (h.same i o hi ho) ho⟩
theorem Turned.mono {t : TypeId} {B B' : Nat} {W1 W2 : World} (h : Turned t B W1 W2) (hb : B' ≤ B) : Turned t B' W1 W2 :=
 ⟨h.os, h.tape, h.output, h.size, fun k o hk ho => h.same k o hk (ho.elim (fun e => .inl (Nat.lt_of_lt_of_le e hb)) .inr)⟩
theorem below_same {n : Nat} {W W' : World} (h : Below n W W') {k : Nat} {o : Obj} (hk : k < n) (ho : W.heap[k]? = some o) : W'.heap[k]? = some o := (h.block k hk).trans ho
theorem lt_of_heap {W : World} {k : Nat} {o : Obj} (h : W.heap[k]? = some o) : k < W.heap.size := (Array.getElem?_eq_some_iff.1 h).1
theorem Turned.of_below {t : TypeId} {B : Nat} {W W' : World} (h : Below W.heap.size W W') : Turned t B W W' :=
 ⟨h.os, h.tape, h.output, h.size, fun k o hk _ => below_same h (lt_of_heap hk) hk⟩
theorem Kept.of_below {t : TypeId} {n0 C B : Nat} {W W' : World} (h : Below W.heap.size W W') : Kept t n0 C B W W' :=
 ⟨h.os, h.tape, h.output, h.size, fun k o hk _ => below_same h (lt_of_heap hk) hk⟩
theorem below_alloc (W : World) (o : Obj) : Below W.heap.size W (W.alloc o) := (Below.refl _ W).alloc (Nat.le_refl _) _
theorem Turned.alloc (t : TypeId) (B : Nat) (W : World) (o : Obj) : Turned t B W (W.alloc o) := .of_below (below_alloc W o)
theorem Kept.alloc (t : TypeId) (n0 C B : Nat) (W : World) (o : Obj) : Kept t n0 C B W (W.alloc o) := .of_below (below_alloc W o)
theorem Kept.trans {t : TypeId} {n0 C B : Nat} {W1 W2 W3 : World} (h : Kept t n0 C B W1 W2) (k : Kept t n0 C B W2 W3) : Kept t n0 C B W1 W3 :=
 ⟨k.os.trans h.os, k.tape.trans h.tape, k.output.trans h.output, Nat.le_trans h.size k.size, fun i o hi ho => k.same i o (h.same i o hi ho) ho⟩
theorem Kept.mono {t : TypeId} {n0 C B n0' C' B' : Nat} {W1 W2 : World} (h : Kept t n0 C B W1 W2) (h1 : n0' ≤ n0) (h2 : C ≤ C') (h3 : B ≤ B') : Kept t n0' C' B' W1 W2 :=
 ⟨h.os, h.tape, h.output, h.size, fun k o hk ho => h.same k o hk (ho.elim (fun e => .inl (Nat.lt_of_lt_of_le e h1)) fun e => .inr (e.elim (fun e => .inl ⟨Nat.le_trans h2 e.1, e.2⟩) fun e => .inr ⟨Nat.le_trans h3 e.1, e.2⟩))⟩
theorem Kept.whole {t : TypeId} {n0 C B : Nat} {W1 W2 : World} (h : Kept t n0 C C W1 W2) (hB : C ≤ B) : Kept t n0 C B W1 W2 := h.mono (Nat.le_refl _) (Nat.le_refl _) hB
theorem Turned.below {t : TypeId} {B n : Nat} {W W' : World} (h : Turned t B W W') (hn : n ≤ B) (hs : n ≤ W.heap.size) : Below n W W' :=
 ⟨h.os, h.tape, h.output, h.size, fun k hk => by
  obtain ⟨o, ho⟩ : ∃ o, W.heap[k]? = some o := ⟨_, Array.getElem?_eq_getElem (Nat.lt_of_lt_of_le hk hs)⟩
  rw [ho]; exact h.same k o ho (.inl (Nat.lt_of_lt_of_le hk hn))⟩
theorem Kept.below {t : TypeId} {n0 C B : Nat} {W W' : World} (h : Kept t n0 C B W W') (hs : n0 ≤ W.heap.size) : Below n0 W W' :=
 ⟨h.os, h.tape, h.output, h.size, fun k hk => by
  obtain ⟨o, ho⟩ : ∃ o, W.heap[k]? = some o := ⟨_, Array.getElem?_eq_getElem (Nat.lt_of_lt_of_le hk hs)⟩
  rw [ho]; exact h.same k o ho (.inl hk)⟩
theorem Turned.putObj {t : TypeId} {B : Nat} {W : World} {l : Nat} {o : Obj} (o' : Obj) (hl : W.heap[l]? = some o) (hB : B ≤ l) (ho : rowOf t o = false) : Turned t B W (W.putObj l o') :=
 ⟨rfl, rfl, rfl, by simp, fun k o2 hk h2 => by
  have hne : k ≠ l := by
   rintro rfl
   rw [hl] at hk; cases hk
   rcases h2 with h2 | h2
   ·omega
   ·rw [ho] at h2; cases h2
  exact (World.putObj_heap_other hne).trans hk⟩
theorem Kept.putObj {t : TypeId} {n0 C B : Nat} {W : World} {l : Nat} {o : Obj} (o' : Obj) (hl : W.heap[l]? = some o) (h0 : n0 ≤ l) (hB : l < B) (ho : o.isCells = false) : Kept t n0 C B W (W.putObj l o') :=
 ⟨rfl, rfl, rfl, by simp, fun k o2 hk h2 => by
  have hne : k ≠ l := by
   rintro rfl
   rw [hl] at hk; cases hk
   rcases h2 with h2 | h2 | h2
   ·omega
   ·rw [ho] at h2; cases h2.2.1
   ·omega
  exact (World.putObj_heap_other hne).trans hk⟩
theorem Turned.setCell {t : TypeId} {B : Nat} {W : World} {b : Nat} {cs : Array Value} {t' : TypeId} {fr : Nat × Nat} (i : Nat) (v : Value) (hl : W.heap[b]? = some (.cells cs t' fr)) (hB : B ≤ b) (ht : t' ≠ t) : Turned t B W (W.setCell ⟨b, i, none⟩ v) :=
 ⟨rfl, rfl, rfl, (KeepsWalks.setCell W _ v).size, fun k o2 hk h2 => by
  have hne : k ≠ b := by
   rintro rfl
   rw [hl] at hk; cases hk
   rcases h2 with h2 | h2
   ·omega
   ·exact ht (by simpa [rowOf] using h2)
  exact (Below.heap_setCell _ _ _ _ hne).trans hk⟩
theorem Kept.setCell {t : TypeId} {n0 C B : Nat} {W : World} {b : Nat} (i : Nat) (v : Value) (h0 : n0 ≤ b) (hC : b < C) (hB : b < B) : Kept t n0 C B W (W.setCell ⟨b, i, none⟩ v) :=
 ⟨rfl, rfl, rfl, (KeepsWalks.setCell W _ v).size, fun k o2 hk h2 => by
  have hne : k ≠ b := by
   rintro rfl
   rcases h2 with h2 | h2 | h2 <;> omega
  exact (Below.heap_setCell _ _ _ _ hne).trans hk⟩
def IterOk (P : Program) (t : TypeId) (n0 C : Nat) (gf : Nat) (lb : Array Value) (xs : List L8) (w : World) : Prop :=
 ∀ (l : Nat) (J : List L8 → World → Prop) (W : World), Kept t n0 C w.heap.size w W →
  (∀ s V V', J s V → Turned t W.heap.size V V' → J s V') →
  (∀ pre x V, pre ++ [x] <+: xs → J pre V → YieldAt Fence.wide 1 P l #[encStr x] V fun e V' => e = .returned (.bool true) ∧ J (pre ++ [x]) V' ∧ Kept t n0 C W.heap.size V V') →
  J [] W →
  CallsIn Fence.wide 1 P gf (#[.func (.yield l) #[] #[]] ++ lb) W fun e W' => (∃ v, e = .returned v) ∧ J xs W'
def Seqs (P : Program) (t : TypeId) (n0 C : Nat) (v : Value) (xs : List L8) (w : World) : Prop :=
 ∃ gf lb, v = .func (.func gf) #[] lb ∧ (∀ args w, (callFunc gf args).run P w = .ok (.enter gf args) w) ∧ IterOk P t n0 C gf lb xs w
theorem callsIn_any {P : Program} {n m : Nat} {f : FuncId} {args : Array Value} {w : World} {R : Ending → World → Prop} (h : CallsIn Fence.wide n P f args w R) : CallsIn Fence.wide m P f args w R := callsIn_wide.2 (callsIn_wide.1 h)
theorem roundIn_any {P : Program} {n m : Nat} {l : Nat} {f : FuncId} {tmps : Array Value} {assign body : Code} {w : World} {R : Ending → World → Prop} (h : RoundIn Fence.wide n P l f tmps assign body w R) : RoundIn Fence.wide m P l f tmps assign body w R := ⟨trivial, fun c cs _ => h.2 c cs (room_wide _)⟩
theorem wpIn_lines {P : Program} {n : Nat} {t : TypeId} {g : Operand} {ps : Array Tmp} {assign body : Code} {Q : Exit → Act → World → Prop} {a : Act} {w : World}
  {gf : Nat} {lb : Array Value} (hg : a.eval g = .func (.func gf) #[] lb) (eg : ∀ args w, (callFunc gf args).run P w = .ok (.enter gf args) w) (hps : ps.size = 1)
  {n0 C : Nat} {xs : List L8} (hit : IterOk P t n0 C gf lb xs w) (h0C : n0 ≤ w.heap.size) (hC : C ≤ w.heap.size)
  (I : List L8 → World → Prop) (hI : ∀ s V V', I s V → Turned t w.heap.size V V' → I s V') (h0 : I [] w) (a₁ : L8 → Act)
  (hassign : ∀ (l : Nat) (x : L8) (V : World) (K : Act → World → Prop), K (a₁ x) V →
   assign.wpIn (Fence.wide.inRound l) 1 P (Exit.then K (fun _ _ _ => False)) { tmps := (ps.zip #[encStr x]).foldl (fun t (p, v) => t.setIfInBounds p v) a.tmps, defers := [] } V)
  (hbody : ∀ (l : Nat) (pre : List L8) (x : L8) (V : World), pre ++ [x] <+: xs → I pre V → body.wpIn (Fence.wide.inRound l) 1 P (fun e _ V' => e = .normal ∧ I (pre ++ [x]) V' ∧ Kept t n0 C C V V') (a₁ x) V)
  (hdone : ∀ (D : Nat) (V : World), w.heap.size ≤ D → I xs V → V.heap[D]? = some (.deferred (some [])) → Q .normal { a with defers := { target := .collected D, args := #[] } :: a.defers } V) :
  (Code.rangeFunc g ps assign body).wpIn Fence.wide n P Q a w := by
 refine wpIn_rangeFunc ?_
 intro fn hfn
 obtain ⟨rec, hrec⟩ : ∃ rec : LoopState → Option Code → Loop, rec = fun st pe => { state := st, pending := pe, fn, tmps := a.tmps, params := ps, assign, body, defers := w.heap.size } := ⟨_, rfl⟩
 obtain ⟨W1, hW1⟩ : ∃ W1, (w.alloc (.deferred (some []))).alloc (.loop (rec .ready none)) = W1 := ⟨_, rfl⟩
 have hs1 : W1.heap.size = w.heap.size + 2 := by rw [← hW1]; simp
 have hL1 : W1.heap[w.heap.size + 1]? = some (.loop (rec .ready none)) := by
  rw [← hW1]; have := World.alloc_heap_new (w.alloc (.deferred (some []))) (.loop (rec .ready none)); rwa [World.size_alloc] at this
 have hD1 : W1.heap[w.heap.size]? = some (.deferred (some [])) := by
  rw [← hW1]; exact (Below.heap_alloc _ _ _ (by simp)).trans (World.alloc_heap_new w _)
 have hB1 : Below w.heap.size w W1 := by rw [← hW1]; exact (below_alloc w _).alloc (by simp) _
 have hI1 : I [] W1 := hI _ _ _ h0 (.of_below hB1)
 refine ⟨w.heap.size + 1, [{ target := .collected w.heap.size, args := #[] }], W1, { target := .fn (.func gf) lb, args := #[.func (.yield (w.heap.size + 1)) #[] #[]] }, W1, gf,
  #[.func (.yield (w.heap.size + 1)) #[] #[]] ++ lb, W1, ?_, ?_, ?_, ?_, fun h => (by cases h), ?_⟩
 ·rw [← hW1, hrec]; exact run_enterLoop_outer _ _ _ _ _
 ·simp only [resolve, hg]
  simp [go_sem]
 ·intro f' _; trivial
 ·simp [invoke, go_sem, eg]
 ·refine (callsIn_any (hit (w.heap.size + 1)
   (fun pre V => I pre V ∧ V.heap[w.heap.size + 1]? = some (.loop (rec .ready none)) ∧ V.heap[w.heap.size]? = some (.deferred (some [])))
   W1 (.of_below hB1)
   (fun s V V' hs hT => ⟨hI s V V' hs.1 (hT.mono (by omega)), hT.same _ _ hs.2.1 (.inl (by omega)), hT.same _ _ hs.2.2 (.inl (by omega))⟩)
   ?_ ⟨hI1, hL1, hD1⟩)).mono ?_
  ·rintro pre x V hpre ⟨hi, hl, hk⟩
   have hy := run_yield (P := P) (args := #[encStr x]) hl (by rw [hrec]; simp [hps])
   rw [hrec] at hy
   refine ⟨fn, _, assign, body, hy, roundIn_of_wpIn hfn (hassign _ x V _ ⟨_, run_beginRound hl (by rw [hrec]), ?_⟩)⟩
   have hlt : w.heap.size + 1 < V.heap.size := lt_of_heap hl
   obtain ⟨V2, hV2⟩ : ∃ V2, V.putObj (w.heap.size + 1) (.loop { rec .ready none with state := .busy }) = V2 := ⟨_, rfl⟩
   have hl2 : V2.heap[w.heap.size + 1]? = some (.loop { rec .ready none with state := .busy }) := by rw [← hV2]; exact World.putObj_heap_same hlt
   have hk2 : V2.heap[w.heap.size]? = some (.deferred (some [])) := by rw [← hV2]; exact (World.putObj_heap_other (by omega)).trans hk
   have hT2 : Turned t w.heap.size V V2 := by rw [← hV2]; exact .putObj _ hl (by omega) rfl
   have hK2 : Kept t n0 C W1.heap.size V V2 := by rw [← hV2]; exact .putObj _ hl (by omega) (by omega) rfl
   rw [hV2]
   refine wpIn_mono (hbody _ pre x V2 hpre (hI _ _ _ hi hT2)) ?_
   rintro e a3 V3 ⟨rfl, hi3, hk3⟩
   have hl3 := hk3.same _ _ hl2 (.inr (.inr ⟨by omega, rfl⟩))
   have hd3 := hk3.same _ _ hk2 (.inr (.inr ⟨by omega, rfl⟩))
   have hend := run_endRound (P := P) none hl3
   rw [hrec] at hend
   refine ⟨_, _, hend, rfl, ⟨hI _ _ _ hi3 (.putObj _ hl3 (by omega) rfl), ?_, ?_⟩, ?_⟩
   ·rw [hrec]; exact World.putObj_heap_same (lt_of_heap hl3)
   ·exact (World.putObj_heap_other (by omega)).trans hd3
   ·exact (hK2.trans (hk3.whole (by omega))).trans (.putObj _ hl3 (by omega) (by omega) rfl)
  ·rintro e W2 ⟨⟨v, rfl⟩, hi, hl, hk⟩
   refine ⟨none, _, by have := run_endLoop (P := P) hl (by rw [hrec]; simp); rw [hrec] at this; exact this, hdone _ _ (Nat.le_refl _) (hI _ _ _ hi (.putObj _ hl (by omega) rfl)) ((World.putObj_heap_other (by omega)).trans hk)⟩
def shut (Ds : List Nat) (W : World) : World := Ds.foldl (fun W D => W.putObj D (.deferred none)) W
def markOf (D : Nat) : Deferred := { target := .collected D, args := #[] }
theorem shut_facts {t : TypeId} {B : Nat} : ∀ (Ds : List Nat) (W : World), (∀ D ∈ Ds, B ≤ D ∧ ∃ o, W.heap[D]? = some o ∧ rowOf t o = false) → Turned t B W (shut Ds W)
 | [], W, _ => .refl _ _ _
 | D :: Ds, W, h => by
  obtain ⟨hB, o, ho, hr⟩ := h D (by simp)
  refine (Turned.putObj (.deferred none) ho hB hr).trans (shut_facts Ds _ fun E hE => ?_)
  obtain ⟨hB2, o2, ho2, hr2⟩ := h E (by simp [hE])
  by_cases e : E = D
  ·subst e; exact ⟨hB2, _, World.putObj_heap_same (lt_of_heap ho), rfl⟩
  ·exact ⟨hB2, o2, (World.putObj_heap_other e).trans ho2, hr2⟩
theorem leaves_marks {F : Fence} {n : Nat} {P : Program} {fn : Func} {tmps : Array Value} {R : Ending → World → Prop} : ∀ (Ds : List Nat) (W : World), Ds.Nodup → (∀ D ∈ Ds, W.heap[D]? = some (.deferred (some []))) →
  (∃ v, (results fn tmps).run P (shut Ds W) = .ok v (shut Ds W) ∧ R (.returned v) (shut Ds W)) → LeavesInM F n P fn tmps R (Ds.map markOf) .returning W
 | [], W, _, _, h => h
 | D :: Ds, W, hn, hD, h => by
  refine ⟨by simp, .inl ⟨_, _, rfl, run_takeDeferred (hD D (by simp)), leaves_marks Ds _ hn.tail (fun E hE => ?_) h⟩⟩
  have hne : E ≠ D := fun e => (List.nodup_cons.1 hn).1 (e ▸ hE)
  exact (World.putObj_heap_other hne).trans (hD E (by simp [hE]))
end
section
open Go.ChangeShapes Go.WideShapes Go.RowKit
open Nw N8
theorem open_node {H : Type} {enc : TypeId × Value → H} {W : World} {base b0 : Nat} {spare : Nat → Bool} {held : Bool} {r : Reach} {v : Value} {d : DataW H} {p : List MemPlace}
  (hv : Value.okWide Tryz.prog W r b0 25 v) (h : DataW.Trod enc Tryz.prog W base spare held 25 v d p) :
  ∃ (nd : Nd) (c0 c1 c2 c3 : Value), v = .agg #[c0, c1, c2, c3] ∧ NdW W nd c0 c1 c2 c3 := by
 obtain ⟨cs, rfl, hsz⟩ := okWide_struct Tryz.underlying25 hv
 obtain ⟨fuel, hf⟩ := h
 obtain ⟨nd, c0, c1, c2, c3, hcs, hd⟩ := nd_of_trod fuel fuel (Nat.le_refl _) _ _ hf
 refine ⟨nd, c0, c1, c2, c3, ?_, hd⟩
 have h2 : cs.toList = [c0, c1, c2, c3] := hcs
 rw [show cs = #[c0, c1, c2, c3] from by rw [← Array.toArray_toList (xs := cs), h2]]
end
end Go.Proofs.YtmdgpejedbkkdaaGreatDoor
