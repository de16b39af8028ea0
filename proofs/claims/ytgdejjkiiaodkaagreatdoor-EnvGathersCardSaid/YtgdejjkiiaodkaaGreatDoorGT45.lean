/- EnvTxt -/
import Derived.Deep.RegionHeld3
import Derived.Lib.OthersKept
import Derived.Test.YtgdejjkiiaodkaaGreatDoorGT25
import Derived.Test.YtgdejjkiiaodkaaGreatDoorGT27
import Derived.Test.YtgdejjkiiaodkaaGreatDoorGT44
set_option linter.unusedVariables false
set_option linter.unusedSimpArgs false
set_option maxRecDepth 100000
set_option maxHeartbeats 16000000
open Go.Lib (hid)
namespace Go.Proofs.YtgdejjkiiaodkaaGreatDoor
section
open Go.RowKit Go.Sort
open Nw V12 Q6
attribute [local go_sem] Oper.semAt_some
theorem heap_lt12 {W : World} {k : Nat} {o : Obj} (h : W.heap[k]? = some o) : k < W.heap.size := (Array.getElem?_eq_some_iff.1 h).1
theorem builder_below12 {T e : TypeId} {B b : Nat} {bs : List Value} {W W' : World} (h : Lib.IsBuilderF T e B b bs W) (hb : Below W.heap.size W W') : Lib.IsBuilderF T e B b bs W' := by
 have one : ∀ p, Lib.BuilderAtF T e B b p bs W → Lib.BuilderAtF T e B b p bs W' := by
  rintro p ⟨hB, v, hbk, ⟨hl, hown⟩, hne⟩
  refine ⟨hB, v, (hb.block b (heap_lt12 hbk)).trans hbk, ⟨hl, ?_⟩, hne⟩
  rcases hown with h0 | ⟨g, cap, cur, fz, h1, h2, h3, h4⟩
  ·exact .inl h0
  ·exact .inr ⟨g, cap, cur, fz, h1, h2, (hb.block g (heap_lt12 h3)).trans h3, h4⟩
 exact h.elim (fun x => .inl (one _ x)) (fun x => .inr (one _ x))
theorem textV_app (l m : List KV) : textV (l ++ m) = textV l ++ textV m := by unfold textV; rw [List.map_append, List.flatten_append]
theorem textV_one (p : KV) : textV [p] = p.1 ++ 61 :: dblL p.2 ++ [10] := by unfold textV rowV; simp
theorem textV_up {l : List KV} {k : Nat} (h : k < l.length) : textV (l.take (k + 1)) = textV (l.take k) ++ ((l[k]'h).1 ++ 61 :: dblL (l[k]'h).2 ++ [10]) := by
 rw [List.take_succ_eq_append_getElem h, textV_app, textV_one]
theorem textV_pre (l : List KV) (k : Nat) : (textV (l.take k)).length ≤ (textV l).length := by
 conv => rhs; rw [← List.take_append_drop k l, textV_app, List.length_append]
 omega
def TK (w : World) (bx : Nat) (l : L8) (X Y : ByteArray) (W : World) : Prop :=
 Lib.IsBuilderF 49 5 w.heap.size w.heap.size (Lib.byteCells l) W ∧ W.heap[bx]? = some (.cells #[.string X, .string Y] 38 (0, 0)) ∧ Below w.heap.size w W
theorem TK.go {w W W' : World} {bx : Nat} {l : L8} {X Y : ByteArray} (h : TK w bx l X Y W) (hb : Below W.heap.size W W') : TK w bx l X Y W' :=
 ⟨builder_below12 h.1 hb, (hb.block bx (heap_lt12 h.2.1)).trans h.2.1, h.2.2.trans (hb.mono h.2.2.size)⟩
theorem TK.cells {w W : World} {bx : Nat} {l : L8} {X Y : ByteArray} (h : TK w bx l X Y W) : W.cell? ⟨bx, 0, none⟩ = some (.string X) ∧ W.cell? ⟨bx, 1, none⟩ = some (.string Y) := ⟨by simp [World.cell?, h.2.1], by simp [World.cell?, h.2.1]⟩
theorem bytes_more (l : L8) (q : ByteArray) : Lib.byteCells l ++ Lib.strCells q = Lib.byteCells (l ++ q.data.toList) := by
 rw [Lib.strCells_eq]; unfold Lib.byteCells; rw [List.map_append]
theorem Text_any12 (v : Value) (x : List KV) (T : ByteArray) (w : World) (h : VR w v x) (hsm : ∀ p ∈ x, p.1.length ≤ 10000 ∧ p.2.length ≤ 10000) (hx : x.length ≤ 10000) (hT : textV x = T.data.toList) (hlen : T.size ≤ 1000000000) :
  Calls Tryz.prog 14 #[v] w fun e w' => e = .returned (.string T) ∧ Below w.heap.size w w' := by
 obtain ⟨a, cap, rfl, h1, h2, h3⟩ := h
 unfold maxLen at h2
 obtain ⟨n, hn⟩ : ∃ n, n = x.length := ⟨_, rfl⟩
 have HN := hid hn
 rw [← hn] at h1 hx ⊢
 clear hn
 have H3 := hid h3
 have HS := hid hsm
 have HT := hid hT
 have HBU : Hid (Lib.IsBuilderF 49 5 w.heap.size w.heap.size (Lib.byteCells (textV (x.take 0))) (w.alloc (.cells #[.pointer none, .slice none 0 0] 49))) := hid (Lib.IsBuilderF.of (Lib.fresh_isBuilder 49 5 w))
 have hb0 := (Below.refl w.heap.size w).alloc (Nat.le_refl _) (.cells #[.pointer none, .slice none 0 0] 49)
 have HB0 := hid hb0
 clear h3 hsm hT hb0
 go_enter Tryz.func14, Tryz.ntmps14
 go_wp2
 go_loopw [8] (fun i wr => ∃ k : Nat, k ≤ n ∧ i = .int .i64 k ∧ Hid (Lib.IsBuilderF 49 5 w.heap.size w.heap.size (Lib.byteCells (textV (x.take k))) wr) ∧ Hid (Below w.heap.size w wr)) (fun i _ => n - (intOf i).toNat)
 case atStart => exact ⟨0, Nat.zero_le _, rfl, HBU, HB0⟩
 case round =>
  clear HBU HB0
  obtain ⟨k, hk, rfl, HBU, HB⟩ := hrel
  by_cases hlt : k < n
  ·have hl : Hid (k < x.length) := hid (by have := HN.out; omega)
   rcases H3.out with ⟨e, _⟩ | ⟨b, o, rfl, h4, h5⟩
   ·exact absurd hl.out (by rw [e]; exact Nat.not_lt_zero _)
   have hc := (HB.out.cell (p := ⟨b, o + k * 2, none⟩) h4).trans (h5 k hl.out).1
   have hd := (HB.out.cell (p := ⟨b, o + k * 2 + 1, none⟩) h4).trans (h5 k hl.out).2
   clear h5
   have hltz : (k : Int) < (n : Int) := by omega
   have hs1 := HS.out _ (List.getElem_mem hl.out)
   have hst := textV_up hl.out
   have hpre := textV_pre x (k + 1)
   rw [hst, List.length_append, HT.out, len_eq] at hpre
   obtain ⟨p, hp⟩ : ∃ p, p = x[k]'hl.out := ⟨_, rfl⟩
   rw [← hp] at hc hd hs1 hst hpre
   clear hp
   obtain ⟨x1, x2⟩ := p
   simp only [] at hc hd hs1 hst hpre
   obtain ⟨X, hX⟩ : ∃ X : ByteArray, X.data.toList = x1 := ⟨⟨x1.toArray⟩, toList_arr⟩
   obtain ⟨Y, hY⟩ : ∃ Y : ByteArray, Y.data.toList = x2 := ⟨⟨x2.toArray⟩, toList_arr⟩
   obtain ⟨D, hD⟩ : ∃ D : ByteArray, dblL x2 = D.data.toList := ⟨⟨(dblL x2).toArray⟩, toList_arr.symm⟩
   have hXs : X.size ≤ 10000 := by rw [← len_eq, hX]; exact hs1.1
   have hYs : Y.size ≤ 10000 := by rw [← len_eq, hY]; exact hs1.2
   have hDs : D.size ≤ 40002 := by
    have := dblL_len x2
    rw [hD, len_eq] at this
    have := hs1.2
    omega
   rw [show ba x1 = X by rw [← hX, ba_of]] at hc
   rw [show ba x2 = Y by rw [← hY, ba_of]] at hd
   have HD := hid (fun W => Double_any Y W (by omega) D (by rw [hY]; exact hD))
   have HST : Hid (textV (x.take (k + 1)) = textV (x.take k) ++ (X ++ ⟨#[61]⟩ ++ D ++ ⟨#[10]⟩).data.toList) := hid (by
    rw [hst, data_app, data_app, data_app, hX, ← hD]
    simp)
   have hpl : (textV (x.take k)).length ≤ 1000000000 := by omega
   have HPL := hid hpl
   clear hst hpre hpl hX hY hD hs1
   have HK1 : Hid (TK w wr.heap.size (textV (x.take k)) X Y ((wr.alloc (.cells #[.string X, .string Y] 38)).drew)) := hid
    ⟨HBU.out.alloc _, row_new wr _, (HB.out.alloc HB.out.size _).trans ((below_drewN _ 1).mono (by have := HB.out.size; simp; omega))⟩
   have HBSZ : Hid (w.heap.size ≤ wr.heap.size) := hid HB.out.size
   have HNE : Hid (w.heap.size ≠ wr.heap.size) := hid (fun e => by
    have := HBU.out
    rcases this with ⟨_, _, hbk, _⟩ | ⟨_, _, hbk, _⟩
    ·have := heap_lt12 hbk; omega
    ·have := heap_lt12 hbk; omega)
   have hk1 : (9223372036854775807 < X.size + 1) = False := eq_false (by omega)
   have hk2 : (9223372036854775807 < X.size + 1 + D.size) = False := eq_false (by omega)
   have hk3 : (9223372036854775807 < X.size + 1 + D.size + 1) = False := eq_false (by omega)
   have hc1 : (⟨#[61]⟩ : ByteArray).size = 1 := rfl
   have hc2 : (⟨#[10]⟩ : ByteArray).size = 1 := rfl
   have HZS : Hid ((X ++ ⟨#[61]⟩ ++ D ++ ⟨#[10]⟩ : ByteArray).size ≤ 60000) := hid (by simp only [ByteArray.size_append, hc1, hc2]; omega)
   go_wp2
   have hS1 := HK1.out.cells
   generalize wr.alloc (.cells #[.string X, .string Y] 38) = W1 at HK1 hS1 ⊢
   generalize wr.heap.size = BX at HK1 HNE HBSZ hS1 ⊢
   clear hc hd HBU HB
   have hN : w.heap.size ≤ W1.heap.size := HK1.out.2.2.size
   go_region_held3 (fun W => W.cell? ⟨BX, 0, none⟩ = some (.string X) ∧ W.cell? ⟨BX, 1, none⟩ = some (.string Y)) (first | exact hS1 | exact hS2 | exact hS3)
    (first
     | (go_at_call 24; refine (HD.out _).mono ?_; rintro e2 w2 ⟨rfl, hb2⟩; have HK2 := hid (HK1.out.go hb2); have hS2 := HK2.out.cells; clear hb2)
     | (go_at_call 23; refine (Tryz.Builder_WriteString_k w.heap.size w.heap.size (Lib.byteCells (textV (x.take k))) _ _ HK2.out.1 (by have := HPL.out; have := HZS.out; rw [Lib.byteCells_length]; omega) HK2.out.2.2.size).mono ?_; rintro e3 w3 ⟨rfl, hbu3, hb3, ho3⟩; have HK3 := hid (show TK w BX (textV (x.take k) ++ (X ++ ⟨#[61]⟩ ++ D ++ ⟨#[10]⟩).data.toList) X Y w3 from ⟨.inr (by rw [← bytes_more]; exact hbu3), ho3 BX _ HK2.out.2.1 (fun e => HNE.out (by injection e with e; exact e.symm)) (fun c fz e => by injection e with _ e _; exact absurd e (by decide)), HK2.out.2.2.trans hb3⟩); have hS3 := HK3.out.cells; clear hbu3 hb3 ho3))
   all_goals
    have HK4 := hid (And.intro HK3.out.1 HK3.out.2.2)
    rw [← HST.out] at HK4
    clear hS1 hS2 hS3 HK1 HK2 HK3
    go_wp2
    go_roundw
    case rel => exact ⟨k + 1, by omega, by go_num, hid HK4.out.1, hid HK4.out.2⟩
    case measure => simp [intOf]; omega
  ·obtain rfl : k = n := by omega
   have e : x.take k = x := by rw [show k = x.length from HN.out]; exact List.take_length
   rw [e, HT.out] at HBU
   have HST := hid (Tryz.Builder_String_any_k w.heap.size w.heap.size T.data.toList wr HBU.out HB.out.size)
   clear e hlt
   go_wp2_with (go_at_call 25; refine HST.out.mono ?_; rintro e w2 ⟨rfl, -, hb2, -⟩)
   go_ret
   exact ⟨rfl, HB.out.trans hb2⟩
end
end Go.Proofs.YtgdejjkiiaodkaaGreatDoor
