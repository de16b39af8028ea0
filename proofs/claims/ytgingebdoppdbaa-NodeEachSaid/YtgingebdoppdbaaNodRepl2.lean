/- The contract of the program's replaced at a node with kids, and at any node. -/
import Derived.Test.YtgingebdoppdbaaNodRepl
namespace Go.Proofs.Ytgingebdoppdbaa
open Go.RowKit Go.Sort
open Nw N8 Go.ChangeShapes Go.WideShapes
set_option linter.unusedVariables false
/-- What a call owns reads as nodes, over a set of blocks. -/
theorem KO.kdS {S T : Nat → Prop} {base : Nat} {w : World} {v : Value} {qs : List Q4} {ds : List Nd} (h : KO S base w v qs ds) (hT : ∀ b, S b → T b) (hv : ∀ b, v.ownBlock = some b → T b) : KdS T w v ds := by
  rcases h.1.2 with ⟨h0, hn⟩ | ⟨g, cap, cur, h1, h2, h3, h4, h5, h6, h7⟩
  · obtain rfl : ds = [] := List.length_eq_zero_iff.1 hn
    exact ⟨none, 0, h0, Nat.le_refl _, Nat.zero_le _, fun _ => rfl, by rw [NdK]; trivial⟩
  · subst h1
    refine ⟨some ⟨g, 0, none⟩, cap, rfl, h4, h5, fun h => (by cases h), ndK_of ds 0 fun j hj => ?_⟩
    have hq : j < qs.length := by rw [h.2.1]; exact hj
    obtain ⟨f0, f1, f2, f3⟩ := flat4_get qs j hq
    refine ⟨g, 0, _, _, _, _, rfl, hv g rfl, ?_, ?_, ?_, ?_, NdC.keep (fun b hs => ⟨hT b hs, rfl⟩) _ (h.2.2 j hq hj)⟩
    · rw [Nat.zero_add, Nat.zero_add]; exact (h.1.cellAt (j * 4) (by omega)).trans f0
    · rw [Nat.zero_add, Nat.zero_add]; exact (h.1.cellAt (j * 4 + 1) (by omega)).trans f1
    · rw [Nat.zero_add, Nat.zero_add]; exact (h.1.cellAt (j * 4 + 2) (by omega)).trans f2
    · rw [Nat.zero_add, Nat.zero_add]; exact (h.1.cellAt (j * 4 + 3) (by omega)).trans f3
theorem KdS.kid {S : Nat → Prop} {w : World} {A : Option Addr} {n cap : Nat} {ds : List Nd} (h : KdS S w (.slice A n cap) ds) (j : Nat) (hj : j < ds.length) :
    ∃ (b o : Nat) (e0 e1 e2 e3 : Value), A = some ⟨b, o, none⟩ ∧ S b ∧ w.cell? ⟨b, o + j * 4, none⟩ = some e0 ∧ w.cell? ⟨b, o + j * 4 + 1, none⟩ = some e1 ∧
        w.cell? ⟨b, o + j * 4 + 2, none⟩ = some e2 ∧ w.cell? ⟨b, o + j * 4 + 3, none⟩ = some e3 ∧ NdC S w (ds[j]'hj) e0 e1 e2 e3 := by
  obtain ⟨A', cap', h1, -, -, -, h5⟩ := h
  have hAe : A = A' := by injection h1
  subst hAe
  have := NdK.at_ h5 j hj
  rw [Nat.zero_add] at this
  exact this
/-- Blocks of S, or made since, but for the boxes and the row's own. -/
def Own (S : Nat → Prop) (w W : World) (v : Value) (b : Nat) : Prop := S b ∨ (w.heap.size + 2 ≤ b ∧ b < W.heap.size ∧ v.ownBlock ≠ some b)
/-- What replaced holds within its loop. -/
def LS (S : Nat → Prop) (g : Nat) (w W : World) (d : Nd) (c0 c1 c2 c3 : Value) (v : Value) (M : List Nd) : Prop :=
  RX S g w W d c0 c1 c2 c3 ∧ ∃ qs, KO (Own S w W v) (w.heap.size + 2) W v qs M
theorem put4at_size (w : World) (g o : Nat) (a b c d : Value) : (put4at w g o a b c d).heap.size = w.heap.size := by unfold put4at; simp
section
variable {S : Nat → Prop} {g : Nat} {w W W' : World} {d : Nd} {c0 c1 c2 c3 v : Value} {M : List Nd}
theorem LS.go (hg : g < w.heap.size) (h : LS S g w W d c0 c1 c2 c3 v M) (hx : W.grownBy W' (some g)) : LS S g w W' d c0 c1 c2 c3 v M := by
  obtain ⟨h1, qs, h2⟩ := h
  have hs := h1.size
  refine ⟨h1.go hg hx, qs, h2.keep (fun b hb => ?_) fun b hb => ?_⟩
  · rcases hb with hb | ⟨a1, a2, a3⟩
    · have hb2 := h1.1 b hb
      exact ⟨.inl hb, hx.block b (by omega) fun e => hb2.2 (by injection e)⟩
    · exact ⟨.inr ⟨a1, Nat.lt_of_lt_of_le a2 hx.size, a3⟩, hx.block b a2 fun e => by injection e with e; omega⟩
  · have hl := h2.1.lt b hb
    exact hx.block b hl.2 fun e => by injection e with e; omega
theorem LS.put {h cap n : Nat} (hl : LS S g w W d c0 c1 c2 c3 (.slice (some ⟨h, 0, none⟩) n cap) M) (hn : M.length = n) (j : Nat) (hj : j < M.length) (e : Nd) (q : Q4) (w1 : World) (hw1 : h < w1.heap.size) (hw2 : w.heap.size + 2 ≤ w1.heap.size) (he : NdC (New S w1 W) W e q.a q.b q.c q.d) :
    LS S g w (put4at W h (j * 4) q.a q.b q.c q.d) d c0 c1 c2 c3 (.slice (some ⟨h, 0, none⟩) n cap) (M.set j e) := by
  obtain ⟨h1, qs, h2⟩ := hl
  have hbh : w.heap.size + 2 ≤ h := (h2.1.lt h rfl).1
  have hO : ∀ b, Own S w W (.slice (some ⟨h, 0, none⟩) n cap) b → b ≠ h := by
    intro b hb
    rcases hb with hb | ⟨_, _, a3⟩
    · have := (h1.1 b hb).1; omega
    · rintro rfl; exact a3 rfl
  refine ⟨h1.far (below_put4at (Below.refl _ _) hbh _ _ _ _), qs.set j q, ?_⟩
  have hk := h2.stored hn hO j hj e q (NdC.keep (fun b hb => ⟨?_, rfl⟩) e he)
  · exact hk.keep (fun b hb => ⟨by unfold Own; rw [put4at_size]; exact hb, rfl⟩) fun _ _ => rfl
  · rcases hb with hb | ⟨a1, a2⟩
    · exact .inl hb
    · refine .inr ⟨by omega, a2, fun e => ?_⟩
      have e' : some h = some b := e
      injection e' with e'
      omega
/-- The end of replaced. -/
theorem LS.done {k : Int} {t : L8} {ks : List L8} {ds : List Nd} {e : L8} (hk : k ≠ 1) (h : LS S g w W (.mk k t ks ds) (.int .i64 k) c1 c2 c3 v (mapL e ds)) :
    w.grownBy (put4 W (w.heap.size + 1) (.int .i64 k) (.string ⟨#[]⟩) c2 v) (some g) ∧ NdC (New S w (put4 W (w.heap.size + 1) (.int .i64 k) (.string ⟨#[]⟩) c2 v)) (put4 W (w.heap.size + 1) (.int .i64 k) (.string ⟨#[]⟩) c2 v) (mapT e (.mk k t ks ds)) (.int .i64 k) (.string ⟨#[]⟩) c2 v ∧
      Below (w.heap.size + 1) W (put4 W (w.heap.size + 1) (.int .i64 k) (.string ⟨#[]⟩) c2 v) := by
  obtain ⟨h1, qs, h2⟩ := h
  have hs := h1.size
  have hbb : Below (w.heap.size + 1) W (put4 W (w.heap.size + 1) (.int .i64 k) (.string ⟨#[]⟩) c2 v) := below_put4 (Below.refl _ _) (Nat.le_refl _) _ _ _ _
  have hsz : (put4 W (w.heap.size + 1) (.int .i64 k) (.string ⟨#[]⟩) c2 v).heap.size = W.heap.size := by unfold put4; simp
  refine ⟨gb_below h1.2.1 (hbb.mono (by omega)), ?_, hbb⟩
  have hT : NdC (fun b => S b ∨ (w.heap.size + 2 ≤ b ∧ b < W.heap.size)) W (mapT e (.mk k t ks ds)) (.int .i64 k) (.string ⟨#[]⟩) c2 v := by
    rw [mapT, if_neg hk, NdC]
    have h3 := h1.2.2.2.2
    rw [NdC] at h3
    refine ⟨rfl, rfl, h3.2.2.1.keep fun b hb => ⟨.inl hb, rfl⟩, ?_⟩
    exact h2.kdS (fun b hb => hb.imp id fun x => ⟨x.1, x.2.1⟩) fun b hb => .inr (h2.1.lt b hb)
  refine NdC.keep (fun b hb => ?_) _ hT
  rcases hb with hb | ⟨a1, a2⟩
  · exact ⟨.inl hb, hbb.block b (by have := (h1.1 b hb).1; omega)⟩
  · refine ⟨.inr ⟨by omega, by rw [hsz]; exact a2⟩, ?_⟩
    unfold put4
    rw [Below.heap_setCell _ _ _ _ (by show b ≠ w.heap.size + 1; omega), Below.heap_setCell _ _ _ _ (by show b ≠ w.heap.size + 1; omega), Below.heap_setCell _ _ _ _ (by show b ≠ w.heap.size + 1; omega), Below.heap_setCell _ _ _ _ (by show b ≠ w.heap.size + 1; omega)]
end
theorem textsL_drop {L rest : List L8} {c : Nat} {ds : List Nd} (h : L.drop c = textsL ds ++ rest) (j : Nat) (hj : j < ds.length) :
    L.drop (c + (textsL (ds.take j)).length) = textsT (ds[j]'hj) ++ (textsL (ds.drop (j + 1)) ++ rest) := by
  rw [← List.drop_drop, h, textsL_split hj, List.append_assoc, List.drop_left, List.append_assoc]
theorem half_pos {e : L8} {ds : List Nd} {j : Nat} (h : j < ds.length) : j < (half e ds j).length := by rw [half_len e ds j (Nat.le_of_lt h)]; exact h
end Go.Proofs.Ytgingebdoppdbaa
