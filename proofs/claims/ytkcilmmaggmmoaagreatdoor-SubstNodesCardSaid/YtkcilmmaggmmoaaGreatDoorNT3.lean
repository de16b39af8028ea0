/- NodMem, NodOpen -/
import Derived.Laws.OwnMore
import Derived.OpenShut
import Derived.ProofKit
import Derived.SliceStrings
import Derived.Test.YtkcilmmaggmmoaaGreatDoorNT1
import Derived.Test.YtkcilmmaggmmoaaGreatDoorNT2
set_option linter.unusedVariables false
set_option linter.unusedSimpArgs false
set_option maxRecDepth 100000
set_option maxHeartbeats 16000000
namespace Go.Proofs.YtkcilmmaggmmoaaGreatDoor
namespace N8
end N8
namespace Nw
end Nw
end Go.Proofs.YtkcilmmaggmmoaaGreatDoor
namespace Go.Proofs.YtkcilmmaggmmoaaGreatDoor
section
open Go.RowKit Go.Sort
open Nw N8 Go.ChangeShapes Go.WideShapes
def RdS (S : Nat → Prop) (w : World) (v : Value) (l : List L8) : Prop :=
 ∃ (a : Option Addr) (cap : Nat), v = .slice a l.length cap ∧ l.length ≤ cap ∧ cap ≤ maxLen ∧
  ((l = [] ∧ (a = none → cap = 0)) ∨ ∃ b o, a = some ⟨b, o, none⟩ ∧ S b ∧ ∀ j (h : j < l.length), w.cell? ⟨b, o + j, none⟩ = some (.string (ba l[j])))
theorem RdS.keep {S T : Nat → Prop} {w w' : World} {v : Value} {l : List L8} (h : RdS S w v l) (hk : ∀ b, S b → T b ∧ w'.heap[b]? = w.heap[b]?) : RdS T w' v l := by
 obtain ⟨a, cap, rfl, h1, h2, h3⟩ := h
 refine ⟨a, cap, rfl, h1, h2, ?_⟩
 rcases h3 with h3 | ⟨b, o, rfl, h4, h5⟩
 ·exact .inl h3
 ·exact .inr ⟨b, o, rfl, (hk b h4).1, fun j hj => (World.cell?_of_block (hk b h4).2).trans (h5 j hj)⟩
mutual
def NdC (S : Nat → Prop) (w : World) : Nd → Value → Value → Value → Value → Prop
 | .mk k t ks ds, c0, c1, c2, c3 => c0 = .int .i64 k ∧ c1 = .string (ba t) ∧ RdS S w c2 ks ∧
   ∃ (A : Option Addr) (cap : Nat), c3 = .slice A ds.length cap ∧ ds.length ≤ cap ∧ cap ≤ maxLen ∧ (A = none → cap = 0) ∧ NdK S w ds A 0
def NdK (S : Nat → Prop) (w : World) : List Nd → Option Addr → Nat → Prop
 | [], _, _ => True
 | d :: ds, A, i => (∃ (b o : Nat) (c0 c1 c2 c3 : Value), A = some ⟨b, o, none⟩ ∧ S b ∧ w.cell? ⟨b, o + i * 4, none⟩ = some c0 ∧ w.cell? ⟨b, o + i * 4 + 1, none⟩ = some c1 ∧
   w.cell? ⟨b, o + i * 4 + 2, none⟩ = some c2 ∧ w.cell? ⟨b, o + i * 4 + 3, none⟩ = some c3 ∧ NdC S w d c0 c1 c2 c3) ∧ NdK S w ds A (i + 1)
end
mutual
theorem NdC.keep {S T : Nat → Prop} {w w' : World} (hk : ∀ b, S b → T b ∧ w'.heap[b]? = w.heap[b]?) : ∀ (d : Nd) {c0 c1 c2 c3 : Value}, NdC S w d c0 c1 c2 c3 → NdC T w' d c0 c1 c2 c3
 | .mk k t ks ds, c0, c1, c2, c3, h => by
  rw [NdC] at h ⊢
  obtain ⟨h0, h1, h2, A, cap, h3, h4, h5, h6, h7⟩ := h
  exact ⟨h0, h1, h2.keep hk, A, cap, h3, h4, h5, h6, NdK.keep hk ds h7⟩
theorem NdK.keep {S T : Nat → Prop} {w w' : World} (hk : ∀ b, S b → T b ∧ w'.heap[b]? = w.heap[b]?) : ∀ (ds : List Nd) {A : Option Addr} {i : Nat}, NdK S w ds A i → NdK T w' ds A i
 | [], A, i, _ => by rw [NdK]; trivial
 | d :: ds, A, i, h => by
  rw [NdK] at h ⊢
  obtain ⟨⟨b, o, c0, c1, c2, c3, hA, hS, e0, e1, e2, e3, hd⟩, hds⟩ := h
  exact ⟨⟨b, o, c0, c1, c2, c3, hA, (hk b hS).1, (World.cell?_of_block (hk b hS).2).trans e0, (World.cell?_of_block (hk b hS).2).trans e1, (World.cell?_of_block (hk b hS).2).trans e2, (World.cell?_of_block (hk b hS).2).trans e3, NdC.keep hk d hd⟩, NdK.keep hk ds hds⟩
end
theorem NdK.at_ {S : Nat → Prop} {w : World} : ∀ {ds : List Nd} {A : Option Addr} {i : Nat}, NdK S w ds A i → ∀ (j : Nat) (h : j < ds.length),
  ∃ (b o : Nat) (c0 c1 c2 c3 : Value), A = some ⟨b, o, none⟩ ∧ S b ∧ w.cell? ⟨b, o + (i + j) * 4, none⟩ = some c0 ∧ w.cell? ⟨b, o + (i + j) * 4 + 1, none⟩ = some c1 ∧
   w.cell? ⟨b, o + (i + j) * 4 + 2, none⟩ = some c2 ∧ w.cell? ⟨b, o + (i + j) * 4 + 3, none⟩ = some c3 ∧ NdC S w (ds[j]'h) c0 c1 c2 c3
 | d :: ds, A, i, h, 0, _ => by rw [NdK] at h; exact h.1
 | d :: ds, A, i, h, j + 1, hj => by
  rw [NdK] at h
  have := NdK.at_ h.2 j (Nat.lt_of_succ_lt_succ hj)
  rw [show i + (j + 1) = i + 1 + j by omega]
  exact this
theorem ndK_of {S : Nat → Prop} {w : World} {A : Option Addr} : ∀ (ds : List Nd) (i : Nat), (∀ (j : Nat) (h : j < ds.length),
  ∃ (b o : Nat) (c0 c1 c2 c3 : Value), A = some ⟨b, o, none⟩ ∧ S b ∧ w.cell? ⟨b, o + (i + j) * 4, none⟩ = some c0 ∧ w.cell? ⟨b, o + (i + j) * 4 + 1, none⟩ = some c1 ∧
   w.cell? ⟨b, o + (i + j) * 4 + 2, none⟩ = some c2 ∧ w.cell? ⟨b, o + (i + j) * 4 + 3, none⟩ = some c3 ∧ NdC S w (ds[j]'h) c0 c1 c2 c3) → NdK S w ds A i
 | [], i, _ => by rw [NdK]; trivial
 | d :: ds, i, h => by
  rw [NdK]
  refine ⟨h 0 (Nat.succ_pos _), ndK_of ds (i + 1) fun j hj => ?_⟩
  have := h (j + 1) (Nat.succ_lt_succ hj)
  rw [show i + 1 + j = i + (j + 1) by omega]
  exact this
def NdW (w : World) (d : Nd) (c0 c1 c2 c3 : Value) : Prop := NdC (· < w.heap.size) w d c0 c1 c2 c3
theorem NdW.below {w w' : World} {d : Nd} {c0 c1 c2 c3 : Value} (h : NdW w d c0 c1 c2 c3) (hb : Below w.heap.size w w') : NdW w' d c0 c1 c2 c3 :=
 NdC.keep (fun b hlt => ⟨Nat.lt_of_lt_of_le hlt hb.size, hb.block b hlt⟩) d h
theorem NdW.parts {w : World} {k : Int} {t : L8} {ks : List L8} {ds : List Nd} {c0 c1 c2 c3 : Value} (h : NdW w (.mk k t ks ds) c0 c1 c2 c3) :
  c0 = .int .i64 k ∧ c1 = .string (ba t) ∧ Rd w c2 ks ∧ ∃ (A : Option Addr) (cap : Nat), c3 = .slice A ds.length cap ∧ ds.length ≤ cap ∧ cap ≤ maxLen ∧ (A = none → cap = 0) ∧
   ∀ (j : Nat) (h : j < ds.length), ∃ (b o : Nat) (e0 e1 e2 e3 : Value), A = some ⟨b, o, none⟩ ∧ b < w.heap.size ∧ w.cell? ⟨b, o + j * 4, none⟩ = some e0 ∧ w.cell? ⟨b, o + j * 4 + 1, none⟩ = some e1 ∧
    w.cell? ⟨b, o + j * 4 + 2, none⟩ = some e2 ∧ w.cell? ⟨b, o + j * 4 + 3, none⟩ = some e3 ∧ NdW w (ds[j]'h) e0 e1 e2 e3 := by
 unfold NdW at h
 rw [NdC] at h
 obtain ⟨h0, h1, h2, A, cap, h3, h4, h5, h6, h7⟩ := h
 refine ⟨h0, h1, h2, A, cap, h3, h4, h5, h6, fun j hj => ?_⟩
 have := NdK.at_ h7 j hj
 rw [Nat.zero_add] at this
 exact this
theorem list_of {P : Nat → Nd → Prop} : ∀ (n : Nat), (∀ i, i < n → ∃ d, P i d) → ∃ ds : List Nd, ds.length = n ∧ ∀ (i : Nat) (h : i < ds.length), P i (ds[i]'h)
 | 0, _ => ⟨[], rfl, fun i h => absurd h (Nat.not_lt_zero _)⟩
 | n + 1, h => by
  obtain ⟨ds, hl, hp⟩ := list_of n fun i hi => h i (by omega)
  obtain ⟨d, hd⟩ := h n (by omega)
  refine ⟨ds ++ [d], by rw [List.length_append, hl]; rfl, fun i hi => ?_⟩
  by_cases hin : i < ds.length
  ·rw [List.getElem_append_left hin]; exact hp i hin
  ·have : i = n := by rw [List.length_append] at hi; have : i < ds.length + 1 := hi; omega
   subst this
   rw [List.getElem_append_right (by omega)]
   simp only [hl, Nat.sub_self, List.getElem_cons_zero]
   exact hd
theorem cell_lt {W : World} {p : Addr} {v : Value} (h : W.cell? p = some v) : p.block < W.heap.size := by
 rcases Nat.lt_or_ge p.block W.heap.size with h1 | h1
 ·exact h1
 ·have : W.heap[p.block]? = none := Array.getElem?_eq_none h1
  simp [World.cell?, this] at h
theorem rd_of_strings {W : World} {x : Addr} {n c : Nat} {ss : List ByteArray} (hl : n ≤ c) (hm : c ≤ maxLen) (hz : n ≤ ss.length)
  (hcell : ∀ i, i < ss.length → W.cell? (x.add i) = some (.string (ss.getD i ByteArray.empty))) : ∃ l, Rd W (.slice (some x) n c) l := by
 have hlen : ((ss.take n).map (·.data.toList)).length = n := by simp; omega
 refine ⟨(ss.take n).map (·.data.toList), some x, c, by rw [hlen], by rw [hlen]; exact hl, hm, ?_⟩
 by_cases h0 : n = 0
 ·subst h0
  exact .inl ⟨by simp, fun h => by cases h⟩
 ·obtain ⟨b, o, spot⟩ := x
  have hspot : spot = none := by simpa [Addr.add] using World.cell?_spot (hcell 0 (by omega))
  subst hspot
  have h1 := hcell 0 (by omega)
  rw [add_plain] at h1
  refine .inr ⟨b, o, rfl, cell_lt h1, fun j hj => ?_⟩
  have hj' : j < n := by rw [hlen] at hj; exact hj
  have := hcell j (by omega)
  rw [add_plain] at this
  rw [this]
  have e : ba ((ss.take n).map (·.data.toList))[j] = ss.getD j ByteArray.empty := by
   rw [List.getElem_map, ba_of, List.getElem_take, List.getD_eq_getElem?_getD, List.getElem?_eq_getElem (by omega)]
   rfl
  rw [e]
section
variable {H : Type} {enc : TypeId × Value → H} {W : World} {base : Nat} {spare : Nat → Bool} {held : Bool}
theorem four {α : Type} : ∀ {cs : List α}, cs.length = 4 → ∃ a b c d, cs = [a, b, c, d]
 | [a, b, c, d], _ => ⟨a, b, c, d, rfl⟩
theorem nd_of_trod (N : Nat) : ∀ (fuel : Nat), fuel ≤ N → ∀ (cs : List Value) (x : DataW H × List MemPlace), DataW.trod enc Tryz.prog W base spare held fuel 25 cs = some x →
  ∃ (d : Nd) (c0 c1 c2 c3 : Value), cs = [c0, c1, c2, c3] ∧ NdW W d c0 c1 c2 c3 := by
 induction N with
 | zero =>
  intro fuel hf cs x h
  obtain ⟨xs, n, hn, _⟩ := DataW.trod_struct Tryz.underlying25 h
  omega
 | succ N ih =>
  intro fuel hf cs x h
  obtain ⟨xs, n, hn, _, hlen, hxl0, hfld⟩ := DataW.trod_struct Tryz.underlying25 h
  have hlen4 : cs.length = 4 := hlen.trans (by kernel_rfl)
  obtain ⟨c0, c1, c2, c3, rfl⟩ := four hlen4
  have hxl : xs.length = 4 := hxl0
  obtain ⟨y0, y1, y2, y3, rfl⟩ := four hxl
  have o0 : Tryz.prog.cellsOf 3 = 1 := by kernel_rfl
  have o1 : Tryz.prog.cellsOf 9 = 1 := by kernel_rfl
  have o2 : Tryz.prog.cellsOf 22 = 1 := by kernel_rfl
  have o3 : Tryz.prog.cellsOf 23 = 1 := by kernel_rfl
  have f0 : DataW.trod enc Tryz.prog W base spare held n 3 [c0] = some y0 := by have := hfld 0 _ rfl; simpa [o0] using this
  have f1 : DataW.trod enc Tryz.prog W base spare held n 9 [c1] = some y1 := by have := hfld 1 _ rfl; simpa [o1] using this
  have f2 : DataW.trod enc Tryz.prog W base spare held n 22 [c2] = some y2 := by have := hfld 2 _ rfl; simpa [o2] using this
  have f3 : DataW.trod enc Tryz.prog W base spare held n 23 [c3] = some y3 := by have := hfld 3 _ rfl; simpa [o3] using this
  obtain ⟨k, h0, _, _⟩ := DataW.trod_int Tryz.underlying3 f0
  obtain ⟨s, h1, _, hs⟩ := DataW.trod_string Tryz.underlying9 f1
  injection h0 with h0
  injection h1 with h1
  subst h0; subst h1
  have hks : ∃ ks, Rd W c2 ks := by
   rcases open_strings Tryz.underlying22 Tryz.underlying9 (by kernel_rfl) f2 with ⟨hcs, _⟩ | ⟨a, len, cap, ss, hcs, _, hl, hm, hz, _, hcell, _⟩
   ·injection hcs with hcs
    subst hcs
    exact ⟨[], rd_empty W none 0 (Nat.zero_le _) fun _ => rfl⟩
   ·injection hcs with hcs
    subst hcs
    refine rd_of_strings hl hm ?_ hcell
    rw [hz]; split <;> omega
  obtain ⟨ks, hks⟩ := hks
  have hds : ∃ (ds : List Nd) (A : Option Addr) (cap : Nat), c3 = .slice A ds.length cap ∧ ds.length ≤ cap ∧ cap ≤ maxLen ∧ (A = none → cap = 0) ∧ NdK (· < W.heap.size) W ds A 0 := by
   rcases DataW.trod_slice Tryz.underlying23 f3 with ⟨hcs, _⟩ | ⟨a, len, cap, elems, rest, n', hn', hcs, _, hb, hl, hm, hel, hget, _⟩
   ·injection hcs with hcs
    subst hcs
    exact ⟨[], none, 0, rfl, Nat.zero_le _, Nat.zero_le _, fun _ => rfl, by rw [NdK]; trivial⟩
   ·injection hcs with hcs
    subst hcs
    have h4 : Tryz.prog.cellsOf 25 = 4 := by kernel_rfl
    have hsp : 0 < len → a.spot = none := by
     intro h0
     have hg := hget 0 h0
     rw [List.getElem?_eq_getElem (by omega), h4] at hg
     cases hc : W.cells? base (a.add (0 * 4)) 4 with
     | none => rw [hc] at hg; cases hg
     | some cs' =>
      obtain ⟨_, hl4, hat⟩ := World.cells?_some hc
      have a0 := hat 0 (by omega)
      rw [List.getElem?_eq_getElem (by omega)] at a0
      have := World.cell?_spot a0
      simpa [Addr.add] using this
    have key : ∀ i, i < len → ∃ d : Nd, ∃ (b o : Nat) (e0 e1 e2 e3 : Value), some a = some ⟨b, o, none⟩ ∧ b < W.heap.size ∧ W.cell? ⟨b, o + (0 + i) * 4, none⟩ = some e0 ∧ W.cell? ⟨b, o + (0 + i) * 4 + 1, none⟩ = some e1 ∧
      W.cell? ⟨b, o + (0 + i) * 4 + 2, none⟩ = some e2 ∧ W.cell? ⟨b, o + (0 + i) * 4 + 3, none⟩ = some e3 ∧ NdC (· < W.heap.size) W d e0 e1 e2 e3 := by
     intro i hi
     have hg := hget i hi
     rw [List.getElem?_eq_getElem (by omega)] at hg
     rw [h4] at hg
     have hsp0 := hsp (by omega)
     cases hc : W.cells? base (a.add (i * 4)) 4 with
     | none => rw [hc] at hg; cases hg
     | some cs' =>
      rw [hc] at hg
      obtain ⟨d, e0, e1, e2, e3, rfl, hd⟩ := ih n' (by omega) cs' _ hg
      obtain ⟨_, _, hat⟩ := World.cells?_some hc
      obtain ⟨b, o, spot⟩ := a
      have a0 := hat 0 (by omega)
      have a1 := hat 1 (by omega)
      have a2 := hat 2 (by omega)
      have a3 := hat 3 (by omega)
      have hspot : spot = none := hsp0
      subst hspot
      rw [add_plain, add_plain] at a0 a1 a2 a3
      refine ⟨d, b, o, e0, e1, e2, e3, rfl, ?_, ?_, ?_, ?_, ?_, hd⟩
      ·exact cell_lt (p := ⟨b, o + i * 4 + 0, none⟩) (v := e0) (by rw [a0]; rfl)
      ·rw [Nat.zero_add]; exact a0
      ·rw [Nat.zero_add]; exact a1
      ·rw [Nat.zero_add]; exact a2
      ·rw [Nat.zero_add]; exact a3
    obtain ⟨ds, hdl, hdp⟩ := list_of len key
    refine ⟨ds, some a, cap, by rw [hdl], by rw [hdl]; exact hl, hm, fun h => (by cases h), ndK_of ds 0 hdp⟩
  obtain ⟨ds, A, cap, hc3, hl1, hl2, hl3, hl4⟩ := hds
  refine ⟨.mk k s.data.toList ks ds, _, _, _, _, rfl, ?_⟩
  unfold NdW
  rw [NdC]
  exact ⟨rfl, by rw [ba_of], hks, A, cap, hc3, hl1, hl2, hl3, hl4⟩
end
end
section
open Go.ChangeShapes Go.WideShapes Go.RowKit
open Nw N8
theorem open_node {H : Type} {enc : TypeId × Value → H} {W : World} {base b0 : Nat} {spare : Nat → Bool} {held : Bool} {r : Reach} {v : Value} {d : DataW H} {p : List MemPlace}
  (hv : Value.okWide Tryz.prog W r b0 25 v) (h : DataW.Trod enc Tryz.prog W base spare held 25 v d p) :
  ∃ (nd : Nd) (c0 c1 c2 c3 : Value), v = .agg #[c0, c1, c2, c3] ∧ NdW W nd c0 c1 c2 c3 := by
 obtain ⟨cs, rfl, hsz⟩ := okWide_struct Tryz.underlying25 hv
 obtain ⟨fuel, hf⟩ := h
 obtain ⟨nd, c0, c1, c2, c3, hcs, hd⟩ := nd_of_trod fuel fuel (Nat.le_refl _) _ _ hf
 refine ⟨nd, c0, c1, c2, c3, ?_, hd⟩
 have h2 : cs.toList = [c0, c1, c2, c3] := hcs
 rw [show cs = #[c0, c1, c2, c3] from by rw [← Array.toArray_toList (xs := cs), h2]]
end
end Go.Proofs.YtkcilmmaggmmoaaGreatDoor
