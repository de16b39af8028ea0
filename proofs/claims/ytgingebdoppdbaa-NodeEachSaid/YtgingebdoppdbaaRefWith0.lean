/- Words for the document's own With and Less: a node of the call's own that grows by keys and kids. -/
import Derived.Test.YtgingebdoppdbaaNodLess
namespace Go.Proofs.Ytgingebdoppdbaa
open Go.RowKit Go.Sort
open Nw N8 Go.ChangeShapes Go.WideShapes
set_option linter.unusedVariables false
/-- A box with a map that grows: its keys, its kids; what lies below is told by G. -/
def RW (OUT : Nat) (G : World → Prop) (W : World) (s7 : Value) (n7 : Nat) (X7 : List Value) (s8 : Value) (n8 : Nat) (X8 : List Value) : Prop :=
  G W ∧ Row4 W OUT 25 (.int .i64 3) (.string ⟨#[]⟩) s7 s8 ∧ W.ownsRow (OUT + 1) 9 1 s7 n7 X7 ∧ W.ownsRow (OUT + 1) 25 4 s8 n8 X8
section
variable {OUT : Nat} {G : World → Prop} {W0 W1 W2 : World} {s7 s8 s' : Value} {n7 n8 n' : Nat} {X7 X8 X' : List Value}
theorem set_oth (w : World) (p : Addr) (v : Value) (b : Nat) (hb : b ≠ p.block) : (w.setCell p v).heap[b]? = w.heap[b]? := Below.heap_setCell _ _ _ _ hb
theorem RW.lt (h : RW OUT G W0 s7 n7 X7 s8 n8 X8) : OUT < W0.heap.size := h.2.1.lt
theorem RW.keys (hG : ∀ W W', G W → Below OUT W W' → G W') (h : RW OUT G W0 s7 n7 X7 s8 n8 X8) (hb : Below W0.heap.size W0 W1) (ho : W2.ownsRow (OUT + 1) 9 1 s' n' X') (hg : W1.grownBy W2 s7.ownBlock) :
    RW OUT G (W2.setCell ⟨OUT, 2, none⟩ s') s' n' X' s8 n8 X8 := by
  obtain ⟨h1, h2, h3, h4⟩ := h
  have hlt := h2.lt
  have hs := hb.size
  have h31 := owns_below h3 hb
  have h41 := owns_below h4 hb
  have hb2 : Below (OUT + 1) W0 W2 := (hb.mono (by omega)).grown hg (by omega) fun k hk => (h31.lt k hk).1
  have hb25 : Below OUT W0 W2 := hb2.mono (by omega)
  have hb3 : Below OUT W0 (W2.setCell ⟨OUT, 2, none⟩ s') := hb25.setCell (p := ⟨OUT, 2, none⟩) (Nat.le_refl _) s'
  refine ⟨hG _ _ h1 hb3, ?_, owns_keep ho fun g hg' => set_oth _ _ _ _ ?_, owns_keep h41 fun g hg' => ?_⟩
  · have h22 : Row4 W2 OUT 25 (.int .i64 3) (.string ⟨#[]⟩) s7 s8 := (hb2.block OUT (by omega)).trans h2
    exact Lib.heap_setCell_same (i := 2) h22 s'
  · have := (ho.lt g hg').1
    show g ≠ OUT
    omega
  · have hg1 := h41.lt g hg'
    have e1 : (W2.setCell ⟨OUT, 2, none⟩ s').heap[g]? = W2.heap[g]? := set_oth _ _ _ _ (by show g ≠ OUT; omega)
    rw [e1]
    exact hg.block g hg1.2 fun e => owns_apart h41 h31 (by decide) hg' e.symm
theorem RW.kids (hG : ∀ W W', G W → Below OUT W W' → G W') (h : RW OUT G W0 s7 n7 X7 s8 n8 X8) (hb : Below W0.heap.size W0 W1) (ho : W2.ownsRow (OUT + 1) 25 4 s' n' X') (hg : W1.grownBy W2 s8.ownBlock) :
    RW OUT G (W2.setCell ⟨OUT, 3, none⟩ s') s7 n7 X7 s' n' X' := by
  obtain ⟨h1, h2, h3, h4⟩ := h
  have hlt := h2.lt
  have hs := hb.size
  have h31 := owns_below h3 hb
  have h41 := owns_below h4 hb
  have hb2 : Below (OUT + 1) W0 W2 := (hb.mono (by omega)).grown hg (by omega) fun k hk => (h41.lt k hk).1
  have hb25 : Below OUT W0 W2 := hb2.mono (by omega)
  have hb3 : Below OUT W0 (W2.setCell ⟨OUT, 3, none⟩ s') := hb25.setCell (p := ⟨OUT, 3, none⟩) (Nat.le_refl _) s'
  refine ⟨hG _ _ h1 hb3, ?_, owns_keep h31 fun g hg' => ?_, owns_keep ho fun g hg' => set_oth _ _ _ _ ?_⟩
  · have h22 : Row4 W2 OUT 25 (.int .i64 3) (.string ⟨#[]⟩) s7 s8 := (hb2.block OUT (by omega)).trans h2
    exact Lib.heap_setCell_same (i := 3) h22 s'
  · have hg1 := h31.lt g hg'
    have e1 : (W2.setCell ⟨OUT, 3, none⟩ s').heap[g]? = W2.heap[g]? := set_oth _ _ _ _ (by show g ≠ OUT; omega)
    rw [e1]
    exact hg.block g hg1.2 fun e => owns_apart h31 h41 (by decide) hg' e.symm
  · have := (ho.lt g hg').1
    show g ≠ OUT
    omega
end
/-- Cells that read as nodes of the first world. -/
def QF (w : World) (ds : List Nd) (qs : List Q4) : Prop := qs.length = ds.length ∧ ∀ (j : Nat) (h : j < qs.length) (g : j < ds.length), NdQ (· < w.heap.size) w (ds[j]'g) (qs[j]'h)
theorem QF.nil (w : World) : QF w [] [] := ⟨rfl, fun j h => absurd h (Nat.not_lt_zero _)⟩
theorem QF.snoc {w : World} {ds : List Nd} {qs : List Q4} {d : Nd} {q : Q4} (h : QF w ds qs) (hd : NdQ (· < w.heap.size) w d q) : QF w (ds ++ [d]) (qs ++ [q]) := by
  refine ⟨by rw [List.length_append, List.length_append, h.1]; rfl, fun j hj g => ?_⟩
  have hl := h.1
  by_cases hjl : j < qs.length
  · rw [List.getElem_append_left hjl, List.getElem_append_left (by omega)]
    exact h.2 j hjl (by omega)
  · rw [List.getElem_append_right (by omega), List.getElem_append_right (by omega)]
    have e1 : j - qs.length = 0 := by simp at hj; omega
    have e2 : j - ds.length = 0 := by omega
    simp only [e1, e2, List.getElem_cons_zero]
    exact hd
theorem QF.ko {w W : World} {base : Nat} {v : Value} {ds : List Nd} {qs : List Q4} {n : Nat} (h : QF w ds qs) (hb : Below w.heap.size w W) (ho : W.ownsRow base 25 4 v n (flat4 qs)) (hn : n = ds.length) : KO (· < w.heap.size) base W v qs ds := by
  subst hn
  exact ⟨ho, h.1, fun j hj g => NdC.keep (fun b hs => ⟨hs, hb.block b hs⟩) _ (h.2 j hj g)⟩
namespace N8
theorem putK_snoc {x : L8} {v : Nd} : ∀ {ks : List L8} {ds : List Nd} {j : Nat} (hj : j < ks.length) (hd : j < ds.length), putK (ks.take (j + 1)) (ds.take (j + 1)) x v = putK (ks.take j) (ds.take j) x v ++ [if ks[j]'hj = x then v else ds[j]'hd]
  | k :: ks, d :: ds, 0, _, _ => by
    rw [List.take_succ_cons, List.take_succ_cons, List.take_zero, List.take_zero, List.take_zero, List.take_zero, putK]
    rw [show putK [] [] x v = [] by rw [putK]; intros; contradiction]
    rfl
  | k :: ks, d :: ds, j + 1, hj, hd => by
    rw [List.take_succ_cons, List.take_succ_cons, List.take_succ_cons, List.take_succ_cons, putK, putK, putK_snoc (Nat.lt_of_succ_lt_succ hj) (Nat.lt_of_succ_lt_succ hd)]
    rfl
theorem putK_len {x : L8} {v : Nd} : ∀ {ks : List L8} {ds : List Nd}, ks.length = ds.length → (putK ks ds x v).length = ds.length
  | [], [], _ => by rw [show putK [] [] x v = [] by rw [putK]; intros; contradiction]
  | k :: ks, d :: ds, h => by rw [putK, List.length_cons, List.length_cons, putK_len (Nat.succ.inj h)]
  | [], _ :: _, h => by cases h
  | _ :: _, [], h => by cases h
theorem dropK_snoc {x : L8} : ∀ {ks : List L8} {ds : List Nd} {j : Nat} (hj : j < ks.length) (hd : j < ds.length), dropK (ks.take (j + 1)) (ds.take (j + 1)) x = dropK (ks.take j) (ds.take j) x ++ (if ks[j]'hj = x then [] else [ds[j]'hd])
  | k :: ks, d :: ds, 0, _, _ => by
    rw [List.take_succ_cons, List.take_succ_cons, List.take_zero, List.take_zero, List.take_zero, List.take_zero, dropK]
    rw [show dropK [] [] x = [] by rw [dropK]; intros; contradiction]
    rfl
  | k :: ks, d :: ds, j + 1, hj, hd => by
    rw [List.take_succ_cons, List.take_succ_cons, List.take_succ_cons, List.take_succ_cons, dropK, dropK, dropK_snoc (Nat.lt_of_succ_lt_succ hj) (Nat.lt_of_succ_lt_succ hd)]
    by_cases h : k = x
    · rw [if_pos h, if_pos h]; rfl
    · rw [if_neg h, if_neg h]; rfl
theorem take_map_snoc {ks : List L8} {j : Nat} (hj : j < ks.length) : (ks.take (j + 1)).map encStr = (ks.take j).map encStr ++ [.string (ba (ks[j]'hj))] := by
  rw [List.take_succ_eq_append_getElem hj, List.map_append]; rfl
end N8
theorem kk_grown {w w' : World} {row : Option Nat} {p q : Addr} {u v : Value} (h : w.cell? p = some u ∧ w.cell? q = some v) (hg : w.grownBy w' row) (hp : row ≠ some p.block) (hq : row ≠ some q.block) : w'.cell? p = some u ∧ w'.cell? q = some v :=
  ⟨cell_grown h.1 hg hp, cell_grown h.2 hg hq⟩
theorem kk_alloc {w : World} {p q : Addr} {u v : Value} {o : Obj} (h : w.cell? p = some u ∧ w.cell? q = some v) : (w.alloc o).cell? p = some u ∧ (w.alloc o).cell? q = some v := ⟨cells_alloc h.1, cells_alloc h.2⟩
theorem cell_set {w : World} {p r : Addr} {u x : Value} (h : w.cell? p = some u) (hp : p.block ≠ r.block) : (w.setCell r x).cell? p = some u := (World.cell?_of_block (set_oth _ _ _ _ hp)).trans h
theorem kk_set {w : World} {p q r : Addr} {u v x : Value} (h : w.cell? p = some u ∧ w.cell? q = some v) (hp : p.block ≠ r.block) (hq : q.block ≠ r.block) : (w.setCell r x).cell? p = some u ∧ (w.setCell r x).cell? q = some v :=
  ⟨cell_set h.1 hp, cell_set h.2 hq⟩
theorem frozen_grown {w w' : World} {row : Option Nat} {p : Addr} (h : w.frozen? p = false) (hg : w.grownBy w' row) (hlt : p.block < w.heap.size) (hne : row ≠ some p.block) : w'.frozen? p = false :=
  (World.frozen?_of_block (hg.block p.block hlt fun e => hne e.symm)).trans h
theorem own_shape {w : World} {base n size : Nat} {e : TypeId} {v : Value} {xs : List Value} (h : w.ownsRow base e size v n xs) : ∃ a c, v = .slice a n c := by
  rcases h.2 with ⟨h0, h1⟩ | ⟨g, cap, cur, h0, _⟩
  · subst h1; exact ⟨_, _, h0⟩
  · exact ⟨_, _, h0⟩
/-- The map that grew is handed back. -/
theorem RW.doneB {OUT : Nat} {w W : World} {G : World → Prop} {s7 s8 : Value} {n7 n8 : Nat} {l : List L8} {ds : List Nd} {qs : List Q4} {R : Nat} (h : RW OUT G W s7 n7 (l.map encStr) s8 n8 (flat4 qs)) (hB : Below w.heap.size w W) (hR : w.heap.size ≤ R) (hRO : R ≤ OUT) (hq : QF w ds qs) (hn : n8 = ds.length) :
    NdW (put4 W R (.int .i64 3) (.string ⟨#[]⟩) s7 s8) (.mk 3 [] l ds) (.int .i64 3) (.string ⟨#[]⟩) s7 s8 ∧ Below w.heap.size w (put4 W R (.int .i64 3) (.string ⟨#[]⟩) s7 s8) := by
  obtain ⟨-, h2, h3, h4⟩ := h
  have hX := below_put4 hB hR (.int .i64 3) (.string ⟨#[]⟩) s7 s8
  exact ⟨ndw_map (rd_of_owns (owns_put h3 (by omega) _ _ _ _)) (((hq.ko hB h4 hn).put (by omega) (fun b hb => by have : b < w.heap.size := hb; omega) _ _ _ _).kd fun b hb => Nat.lt_of_lt_of_le hb hX.size), hX⟩
end Go.Proofs.Ytgingebdoppdbaa
