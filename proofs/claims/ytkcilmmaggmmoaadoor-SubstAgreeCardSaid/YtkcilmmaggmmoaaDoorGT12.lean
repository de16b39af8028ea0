/- EnvMem -/
import Derived.OpenShut
import Derived.ProofKit
import Derived.SliceStrings
import Derived.Test.YtkcilmmaggmmoaaDoorGT11
import Derived.Test.YtkcilmmaggmmoaaDoorGT9
set_option linter.unusedVariables false
set_option linter.unusedSimpArgs false
set_option maxRecDepth 100000
set_option maxHeartbeats 16000000
namespace Go.Proofs.YtkcilmmaggmmoaaDoor
namespace Nw
end Nw
namespace V12
end V12
end Go.Proofs.YtkcilmmaggmmoaaDoor
namespace Go.Proofs.YtkcilmmaggmmoaaDoor
section
open Go.RowKit Go.Sort
open Nw V12 Go.ChangeShapes Go.WideShapes
def VR (w : World) (v : Value) (l : List KV) : Prop :=
 ∃ (a : Option Addr) (cap : Nat), v = .slice a l.length cap ∧ l.length ≤ cap ∧ cap ≤ maxLen ∧
  ((l = [] ∧ (a = none → cap = 0)) ∨ ∃ b o, a = some ⟨b, o, none⟩ ∧ b < w.heap.size ∧ ∀ j (h : j < l.length), w.cell? ⟨b, o + j * 2, none⟩ = some (.string (ba l[j].1)) ∧ w.cell? ⟨b, o + j * 2 + 1, none⟩ = some (.string (ba l[j].2)))
def KVok (l : List KV) : Prop := ∀ p ∈ l, p.1.length ≤ maxLen ∧ p.2.length ≤ maxLen
theorem VR.below {w w' : World} {v : Value} {l : List KV} (h : VR w v l) (hb : Below w.heap.size w w') : VR w' v l := by
 obtain ⟨a, cap, rfl, h1, h2, h3⟩ := h
 refine ⟨a, cap, rfl, h1, h2, ?_⟩
 rcases h3 with h3 | ⟨b, o, rfl, h4, h5⟩
 ·exact .inl h3
 ·exact .inr ⟨b, o, rfl, Nat.lt_of_lt_of_le h4 hb.size, fun j hj => ⟨(hb.cell (p := ⟨b, o + j * 2, none⟩) h4).trans (h5 j hj).1, (hb.cell (p := ⟨b, o + j * 2 + 1, none⟩) h4).trans (h5 j hj).2⟩⟩
theorem vr_nil (w : World) (a : Option Addr) (cap : Nat) (h : cap ≤ maxLen) (hn : a = none → cap = 0) : VR w (.slice a 0 cap) [] := ⟨a, cap, rfl, Nat.zero_le _, h, .inl ⟨rfl, hn⟩⟩
theorem VR.take {w : World} {v : Value} {l : List KV} (h : VR w v l) (n : Nat) (hn : n ≤ l.length) : ∃ a cap, v = .slice a l.length cap ∧ VR w (.slice a n cap) (l.take n) := by
 obtain ⟨a, cap, rfl, h1, h2, h3⟩ := h
 have hl : (l.take n).length = n := by rw [List.length_take]; omega
 refine ⟨a, cap, rfl, a, cap, by rw [hl], by rw [hl]; omega, h2, ?_⟩
 rcases h3 with ⟨rfl, h3⟩ | ⟨b, o, rfl, h4, h5⟩
 ·exact .inl ⟨by simp, h3⟩
 ·exact .inr ⟨b, o, rfl, h4, fun j hj => by
   have := h5 j (by rw [hl] at hj; omega)
   rw [List.getElem_take]
   exact this⟩
def encV (p : KV) : List Value := [.string (ba p.1), .string (ba p.2)]
def cellsV (l : List KV) : List Value := (l.map encV).flatten
theorem cellsV_len (l : List KV) : (cellsV l).length = l.length * 2 := by
 induction l with
 | nil => rfl
 | cons x l ih =>
  show (encV x ++ cellsV l).length = _
  rw [List.length_append, ih, List.length_cons]
  show 2 + _ = _
  omega
theorem cellsV_snoc (l : List KV) (x : KV) : cellsV (l ++ [x]) = cellsV l ++ encV x := by unfold cellsV; simp
theorem cellsV_app (l m : List KV) : cellsV (l ++ m) = cellsV l ++ cellsV m := by unfold cellsV; simp
theorem cellsV_at (l : List KV) (k : Nat) (h : k < l.length) : (cellsV l)[k * 2]? = some (.string (ba (l[k]'h).1)) ∧ (cellsV l)[k * 2 + 1]? = some (.string (ba (l[k]'h).2)) := by
 induction l generalizing k with
 | nil => cases h
 | cons x l ih =>
  have e : cellsV (x :: l) = .string (ba x.1) :: .string (ba x.2) :: cellsV l := rfl
  rw [e]
  cases k with
  | zero => exact ⟨rfl, rfl⟩
  | succ k =>
   have := ih k (Nat.lt_of_succ_lt_succ h)
   rw [show (k + 1) * 2 = k * 2 + 1 + 1 by omega, show k * 2 + 1 + 1 + 1 = k * 2 + 1 + 1 + 1 by rfl]
   refine ⟨?_, ?_⟩
   ·rw [List.getElem?_cons_succ, List.getElem?_cons_succ]; exact this.1
   ·rw [List.getElem?_cons_succ, List.getElem?_cons_succ]; exact this.2
theorem infoV0 : (Tryd.prog.info? 43).map (fun i => (i.zero, i.size, i.bytes)) = some (some (.agg #[.string ByteArray.empty, .string ByteArray.empty]), 2, 32) := by kernel_rfl
theorem infoV : ∃ i, Tryd.prog.info? 43 = some i ∧ i.zero = some (.agg #[.string ByteArray.empty, .string ByteArray.empty]) ∧ i.size = 2 ∧ i.bytes = 32 := by
 have h := infoV0
 cases hi : Tryd.prog.info? 43 with
 | none => rw [hi] at h; cases h
 | some i =>
  rw [hi] at h
  simp only [Option.map_some, Option.some.injEq, Prod.mk.injEq] at h
  exact ⟨i, rfl, h.1, h.2.1, h.2.2⟩
theorem vr_of_owns {w : World} {base n : Nat} {e : TypeId} {v : Value} {l : List KV} (h : w.ownsRow base e 2 v n (cellsV l)) : VR w v l ∧ l.length = n := by
 have hn : l.length = n := by have := h.1; rw [cellsV_len] at this; omega
 have hlt := h.lt
 have hcells := @World.ownsRow.cells _ _ _ _ _ _ _ h
 refine ⟨?_, hn⟩
 rcases h.2 with ⟨hv, h0⟩ | ⟨g, cap, cur, hv, h1, h2, h3, h4, h5⟩
 ·obtain rfl : l = [] := List.length_eq_zero_iff.1 (by omega)
  rw [hv]
  exact vr_nil w none 0 (Nat.zero_le _) fun _ => rfl
 ·refine ⟨some ⟨g, 0, none⟩, cap, by rw [hv, hn], by omega, h4, .inr ⟨g, 0, rfl, (hlt g (by rw [hv]; rfl)).2, fun k hk => ?_⟩⟩
  obtain ⟨c1, c2⟩ := cellsV_at l k hk
  have f := hcells (g := g) (by rw [hv]; rfl)
  refine ⟨?_, ?_⟩
  ·have := f _ _ c1; rw [add_plain] at this; exact this
  ·have := f _ _ c2; rw [add_plain] at this; rw [Nat.zero_add] at this ⊢; exact this
theorem ownV_literal (w : World) (base : Nat) (hb : base ≤ w.heap.size) : (w.alloc (.cells #[] 43)).ownsRow base 43 2 (.slice (some ⟨w.heap.size, 0, none⟩) 0 0) 0 (cellsV []) :=
 ⟨rfl, .inr ⟨w.heap.size, 0, #[], rfl, hb, Array.getElem?_push_size (xs := w.heap), Nat.le_refl _, Nat.zero_le _, rfl, rfl⟩⟩
section
variable {H : Type} {enc : TypeId × Value → H} {W : World} {base : Nat} {spare : Nat → Bool} {held : Bool}
theorem twoV {α : Type} : ∀ {cs : List α}, cs.length = 2 → ∃ a b, cs = [a, b]
 | [a, b], _ => ⟨a, b, rfl⟩
theorem listV {P : Nat → KV → Prop} : ∀ (n : Nat), (∀ i, i < n → ∃ d, P i d) → ∃ ds : List KV, ds.length = n ∧ ∀ (i : Nat) (h : i < ds.length), P i (ds[i]'h)
 | 0, _ => ⟨[], rfl, fun i h => absurd h (Nat.not_lt_zero _)⟩
 | n + 1, h => by
  obtain ⟨ds, hl, hp⟩ := listV n fun i hi => h i (by omega)
  obtain ⟨d, hd⟩ := h n (by omega)
  refine ⟨ds ++ [d], by rw [List.length_append, hl]; rfl, fun i hi => ?_⟩
  by_cases hin : i < ds.length
  ·rw [List.getElem_append_left hin]; exact hp i hin
  ·have : i = n := by rw [List.length_append] at hi; have : i < ds.length + 1 := hi; omega
   subst this
   rw [List.getElem_append_right (by omega)]
   simp only [hl, Nat.sub_self, List.getElem_cons_zero]
   exact hd
theorem cellV_lt {W : World} {p : Addr} {v : Value} (h : W.cell? p = some v) : p.block < W.heap.size := by
 rcases Nat.lt_or_ge p.block W.heap.size with h1 | h1
 ·exact h1
 ·have : W.heap[p.block]? = none := Array.getElem?_eq_none h1
  simp [World.cell?, this] at h
theorem var_of_trod {fuel : Nat} {cs : List Value} {x : DataW H × List MemPlace} (h : DataW.trod enc Tryd.prog W base spare held fuel 43 cs = some x) :
  ∃ p : KV, cs = [.string (ba p.1), .string (ba p.2)] ∧ p.1.length ≤ maxLen ∧ p.2.length ≤ maxLen := by
 obtain ⟨xs, n, hn, _, hlen, hxl0, hfld⟩ := DataW.trod_struct Tryd.underlying43 h
 have hlen2 : cs.length = 2 := hlen.trans (by kernel_rfl)
 obtain ⟨c0, c1, rfl⟩ := twoV hlen2
 have hxl : xs.length = 2 := hxl0
 obtain ⟨y0, y1, rfl⟩ := twoV hxl
 have o1 : Tryd.prog.cellsOf 9 = 1 := by kernel_rfl
 have f0 : DataW.trod enc Tryd.prog W base spare held n 9 [c0] = some y0 := by have := hfld 0 _ rfl; simpa [o1] using this
 have f1 : DataW.trod enc Tryd.prog W base spare held n 9 [c1] = some y1 := by have := hfld 1 _ rfl; simpa [o1] using this
 obtain ⟨s, h0, _, hs⟩ := DataW.trod_string Tryd.underlying9 f0
 obtain ⟨t, h1, _, ht⟩ := DataW.trod_string Tryd.underlying9 f1
 injection h0 with h0
 injection h1 with h1
 subst h0; subst h1
 exact ⟨(s.data.toList, t.data.toList), by rw [ba_of, ba_of], hs, ht⟩
theorem vr_of_trod {fuel : Nat} {c : Value} {x : DataW H × List MemPlace} (f3 : DataW.trod enc Tryd.prog W base spare held fuel 22 [c] = some x) : ∃ l, VR W c l ∧ KVok l := by
 rcases DataW.trod_slice Tryd.underlying22 f3 with ⟨hcs, _⟩ | ⟨a, len, cap, elems, rest, n', hn', hcs, _, hb, hl, hm, hel, hget, _⟩
 ·injection hcs with hcs
  subst hcs
  exact ⟨[], vr_nil W none 0 (Nat.zero_le _) fun _ => rfl, fun p hp => by cases hp⟩
 ·injection hcs with hcs
  subst hcs
  have h2 : Tryd.prog.cellsOf 43 = 2 := by kernel_rfl
  have hsp0 : 0 < len → a.spot = none := by
   intro h0
   have hg := hget 0 h0
   rw [List.getElem?_eq_getElem (by omega), h2] at hg
   cases hc : W.cells? base (a.add (0 * 2)) 2 with
   | none => rw [hc] at hg; cases hg
   | some cs' =>
    obtain ⟨_, hl2, hat⟩ := World.cells?_some hc
    have a0 := hat 0 (by omega)
    rw [List.getElem?_eq_getElem (by omega)] at a0
    have := World.cell?_spot a0
    simpa [Addr.add] using this
  have key : ∀ i, i < len → ∃ p : KV, ∃ b o, a = ⟨b, o, none⟩ ∧ b < W.heap.size ∧ W.cell? ⟨b, o + i * 2, none⟩ = some (.string (ba p.1)) ∧ W.cell? ⟨b, o + i * 2 + 1, none⟩ = some (.string (ba p.2)) ∧ p.1.length ≤ maxLen ∧ p.2.length ≤ maxLen := by
   intro i hi
   have hg := hget i hi
   rw [List.getElem?_eq_getElem (by omega)] at hg
   rw [h2] at hg
   cases hc : W.cells? base (a.add (i * 2)) 2 with
   | none => rw [hc] at hg; cases hg
   | some cs' =>
    rw [hc] at hg
    obtain ⟨p, rfl, hp1, hp2⟩ := var_of_trod hg
    obtain ⟨_, _, hat⟩ := World.cells?_some hc
    obtain ⟨b, o, spot⟩ := a
    have a0 := hat 0 (by omega)
    have a1 := hat 1 (by omega)
    have hspot : spot = none := hsp0 (by omega)
    subst hspot
    rw [add_plain, add_plain] at a0 a1
    refine ⟨p, b, o, rfl, cellV_lt (p := ⟨b, o + i * 2 + 0, none⟩) (v := .string (ba p.1)) (by rw [a0]; rfl), a0, a1, hp1, hp2⟩
  obtain ⟨ds, hdl, hdp⟩ := listV len key
  refine ⟨ds, ⟨some a, cap, by rw [hdl], by rw [hdl]; exact hl, hm, ?_⟩, fun p hp => ?_⟩
  ·by_cases h0 : ds = []
   ·exact .inl ⟨h0, fun h => by cases h⟩
   ·have hpos := List.length_pos_iff.2 h0
    obtain ⟨b, o, rfl, hblt, _⟩ := hdp 0 hpos
    refine .inr ⟨b, o, rfl, hblt, fun j hj => ?_⟩
    obtain ⟨b', o', e, _, e1, e2, _⟩ := hdp j hj
    injection e with e3 e4
    subst e3; subst e4
    exact ⟨e1, e2⟩
  ·obtain ⟨j, hj, rfl⟩ := List.getElem_of_mem hp
   obtain ⟨b', o', e, _, e1, e2, e3, e4⟩ := hdp j hj
   exact ⟨e3, e4⟩
theorem open_vars {b0 : Nat} {r : Reach} {v : Value} {d : DataW H} {p : List MemPlace}
  (hv : Value.okWide Tryd.prog W r b0 22 v) (h : DataW.Trod enc Tryd.prog W base spare held 22 v d p) : ∃ l, VR W v l ∧ KVok l := by
 obtain ⟨a, len, cap, rfl⟩ := okWide_slice Tryd.underlying22 hv
 obtain ⟨fuel, hf⟩ := h
 simp only [Value.cells] at hf
 exact vr_of_trod hf
end
end
end Go.Proofs.YtkcilmmaggmmoaaDoor
