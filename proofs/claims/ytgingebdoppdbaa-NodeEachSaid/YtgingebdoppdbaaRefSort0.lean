/- Words for the document's own Sorted: a node of the call's own that grows by keys and by new kids. -/
import Derived.Test.YtgingebdoppdbaaNodSortMath
import Derived.Test.YtgingebdoppdbaaNodSrt
import Derived.Test.YtgingebdoppdbaaRefLess
import Derived.Test.YtgingebdoppdbaaRefTexts
namespace Go.Proofs.Ytgingebdoppdbaa
open Go.RowKit Go.Sort
open Nw N8 Go.ChangeShapes Go.WideShapes
set_option linter.unusedVariables false
theorem step_append_own_at {P : Program} {ops : Array Oper} {o : Oper} {a : Act} {w : World} {K : Act → World → Prop} {Q : Exit → Act → World → Prop} {E : Prop} (hg : o.guard = none) (s x : Operand) (t : TypeId)
    (ho : o.op = .call { callee := .builtin .append, args := #[s, x], argTypes := #[t, t] })
    (base : Nat) (e : TypeId) (i : TypeInfo) (z : Value) (size bytes : Nat) (ht : P.underlying t = some (.slice e)) (hi : P.info? e = some i) (hz : i.zero = some z)
    (hsize : i.size = size) (hby : i.bytes = bytes) (hzs : z.cells.size = size) (hsz : 0 < size)
    (v : Value) (n : Nat) (xs : List Value) (hs : a.eval s = v) (hown : w.ownsRow base e size v n xs)
    (ad : Addr) (m c : Nat) (news : List Value) (hx : a.eval x = .slice (some ad) m c) (hl : news.length = m * size) (hnews : ∀ j u, news[j]? = some u → w.cell? (ad.add j) = some u) (h1 : ∀ u ∈ news, u.oneCell' = true)
    (h63 : n + m ≤ maxLen) (hbytes : (n + m) * bytes ≤ 140737488355328) (hbase : base ≤ w.heap.size)
    (h : ∀ v' w', w'.ownsRow base e size v' (n + m) (xs ++ news) → w.grownBy w' v.ownBlock → (v'.ownBlock = v.ownBlock ∨ v'.ownBlock = some w.heap.size) → K (a.put o.dst v') w') :
    if Region.wanted o (yielded ops a.tmps) = true then Oper.wp P o a w K Q else E := by
  rw [if_pos (by simp [Region.wanted, hg])]
  obtain ⟨v', w', hr, h2, h3, h4, h5⟩ := run_append_own_at (P := P) w base t o.type e i z size bytes ht hi hz hsize hby hzs hsz v n xs hown ad m c news hl hnews h1 h63 hbytes hbase
  unfold Oper.wp execOp
  simp only [ho, resolve, invoke, builtin, Sem.run_bind, Sem.run_pure, Result.andThen_ok, List.map_toArray, List.map_cons, List.map_nil, hs, hx, hr]
  exact h v' w' h2 h3 h5
/-- Blocks of S, or made behind OUT, but for the rows' own. -/
def OwnZ (S : Nat → Prop) (OUT : Nat) (W : World) (u v : Value) (b : Nat) : Prop := S b ∨ (OUT + 1 ≤ b ∧ b < W.heap.size ∧ u.ownBlock ≠ some b ∧ v.ownBlock ≠ some b)
/-- The box that grows, its keys, its kids. -/
def RZ (S : Nat → Prop) (OUT : Nat) (G : World → Prop) (W : World) (k : Int) (T : ByteArray) (s7 : Value) (l7 : List L8) (s8 : Value) (M : List Nd) : Prop :=
  (∀ b, S b → b < OUT) ∧ G W ∧ Row4 W OUT 25 (.int .i64 k) (.string T) s7 s8 ∧ W.ownsRow (OUT + 1) 9 1 s7 l7.length (l7.map encStr) ∧ ∃ qs, KO (OwnZ S OUT W s7 s8) (OUT + 1) W s8 qs M
section
variable {S : Nat → Prop} {OUT : Nat} {G : World → Prop} {W0 W1 W2 wr : World} {k : Int} {T : ByteArray} {s7 s8 s' : Value} {l7 l' : List L8} {M : List Nd}
theorem RZ.lt (h : RZ S OUT G W0 k T s7 l7 s8 M) : OUT < W0.heap.size := h.2.2.1.lt
theorem RZ.go (hG : ∀ W W', G W → Below OUT W W' → G W') (h : RZ S OUT G W0 k T s7 l7 s8 M) (hb : Below W0.heap.size W0 W1) : RZ S OUT G W1 k T s7 l7 s8 M := by
  have hlt := h.lt
  obtain ⟨h0, h1, h2, h3, qs, h4⟩ := h
  refine ⟨h0, hG _ _ h1 (hb.mono (by omega)), h2.below hb hlt, owns_below h3 hb, qs, h4.keep (fun b hx => ?_) fun b hx => hb.block b (h4.1.lt b hx).2⟩
  rcases hx with hx | ⟨a1, a2, a3, a4⟩
  · exact ⟨.inl hx, hb.block b (by have := h0 b hx; omega)⟩
  · exact ⟨.inr ⟨a1, Nat.lt_of_lt_of_le a2 hb.size, a3, a4⟩, hb.block b a2⟩
theorem RZ.keys (hG : ∀ W W', G W → Below OUT W W' → G W') (h : RZ S OUT G W0 k T s7 l7 s8 M) (hb : Below W0.heap.size W0 W1) (ho : W2.ownsRow (OUT + 1) 9 1 s' l'.length (l'.map encStr)) (hg : W1.grownBy W2 s7.ownBlock) (hk : s'.ownBlock = s7.ownBlock ∨ s'.ownBlock = some W1.heap.size) :
    RZ S OUT G (W2.setCell ⟨OUT, 2, none⟩ s') k T s' l' s8 M := by
  have hlt := h.lt
  obtain ⟨h0, h1, h2, h3, qs, h4⟩ := h
  have hs := hb.size
  have h31 := owns_below h3 hb
  have h41 := owns_below h4.1 hb
  have hb2 : Below (OUT + 1) W0 W2 := (hb.mono (by omega)).grown hg (by omega) fun k hk => (h31.lt k hk).1
  have hb25 : Below OUT W0 W2 := hb2.mono (by omega)
  have hb3 : Below OUT W0 (W2.setCell ⟨OUT, 2, none⟩ s') := hb25.setCell (p := ⟨OUT, 2, none⟩) (Nat.le_refl _) s'
  refine ⟨h0, hG _ _ h1 hb3, ?_, owns_keep ho fun g hg' => set_oth _ _ _ _ ?_, qs, h4.keep (fun b hx => ?_) fun g hg' => ?_⟩
  · have h22 : Row4 W2 OUT 25 (.int .i64 k) (.string T) s7 s8 := (hb2.block OUT (by omega)).trans h2
    exact Lib.heap_setCell_same (i := 2) h22 s'
  · have := (ho.lt g hg').1
    show g ≠ OUT
    omega
  · rcases hx with hx | ⟨a1, a2, a3, a4⟩
    · exact ⟨.inl hx, hb3.block b (h0 b hx)⟩
    · refine ⟨.inr ⟨a1, Nat.lt_of_lt_of_le a2 hb3.size, fun e => ?_, a4⟩, ?_⟩
      · rcases hk with hk | hk
        · exact a3 (hk.symm.trans e)
        · rw [hk] at e; injection e with e; omega
      have e1 : (W2.setCell ⟨OUT, 2, none⟩ s').heap[b]? = W2.heap[b]? := set_oth _ _ _ _ (by show b ≠ OUT; omega)
      rw [e1]
      refine (hg.block b (by omega) fun e => a3 e.symm).trans (hb.block b a2)
  · have hg1 := h41.lt g hg'
    have e1 : (W2.setCell ⟨OUT, 2, none⟩ s').heap[g]? = W2.heap[g]? := set_oth _ _ _ _ (by show g ≠ OUT; omega)
    rw [e1]
    exact (hg.block g hg1.2 fun e => owns_apart h41 h31 (by decide) hg' e.symm).trans (hb.block g (h4.1.lt g hg').2)
theorem RZ.goK (h : RZ S OUT G W0 k T s7 l7 s8 M) {qs : List Q4} (h4 : KO (OwnZ S OUT W0 s7 s8) (OUT + 1) W0 s8 qs M) (hb : Below W0.heap.size W0 W1) : KO (OwnZ S OUT W1 s7 s8) (OUT + 1) W1 s8 qs M := by
  have hlt := h.lt
  have h0 := h.1
  refine h4.keep (fun b hx => ?_) fun b hx => hb.block b (h4.1.lt b hx).2
  rcases hx with hx | ⟨a1, a2, a3, a4⟩
  · exact ⟨.inl hx, hb.block b (by have := h0 b hx; omega)⟩
  · exact ⟨.inr ⟨a1, Nat.lt_of_lt_of_le a2 hb.size, a3, a4⟩, hb.block b a2⟩
theorem RZ.kids (hG : ∀ W W', G W → Below OUT W W' → G W') (h : RZ S OUT G W0 k T s7 l7 s8 M) (hb : Below W0.heap.size W0 W1) {n' : Nat} {xs : List Value} {q : Q4} {e : Nd} (hn : n' = M.length + 1) (qs : List Q4) (hko : KO (OwnZ S OUT W0 s7 s8) (OUT + 1) W0 s8 qs M) (hxs : xs = flat4 qs ++ [q.a, q.b, q.c, q.d]) (ho : W2.ownsRow (OUT + 1) 25 4 s' n' xs) (hg : W1.grownBy W2 s8.ownBlock) (hk : s'.ownBlock = s8.ownBlock ∨ s'.ownBlock = some W1.heap.size)
    (hwr : ∀ b, s7.ownBlock = some b ∨ s8.ownBlock = some b → b < wr.heap.size) (hwo : OUT < wr.heap.size) (he : NdC (New S wr W0) W0 e q.a q.b q.c q.d) :
    RZ S OUT G (W2.setCell ⟨OUT, 3, none⟩ s') k T s7 l7 s' (M ++ [e]) := by
  have hlt := h.lt
  obtain ⟨h0, h1, h2, h3, -⟩ := h
  have h4 := hko
  have hs := hb.size
  have h31 := owns_below h3 hb
  have h41 := owns_below h4.1 hb
  have hb2 : Below (OUT + 1) W0 W2 := (hb.mono (by omega)).grown hg (by omega) fun k hk => (h41.lt k hk).1
  have hb25 : Below OUT W0 W2 := hb2.mono (by omega)
  have hb3 : Below OUT W0 (W2.setCell ⟨OUT, 3, none⟩ s') := hb25.setCell (p := ⟨OUT, 3, none⟩) (Nat.le_refl _) s'
  subst hxs; subst hn
  have hkeep : ∀ b, OwnZ S OUT W0 s7 s8 b → OwnZ S OUT (W2.setCell ⟨OUT, 3, none⟩ s') s7 s' b ∧ (W2.setCell ⟨OUT, 3, none⟩ s').heap[b]? = W0.heap[b]? := by
    intro b hx
    rcases hx with hx | ⟨a1, a2, a3, a4⟩
    · exact ⟨.inl hx, hb3.block b (h0 b hx)⟩
    · refine ⟨.inr ⟨a1, Nat.lt_of_lt_of_le a2 hb3.size, a3, fun e => ?_⟩, ?_⟩
      · rcases hk with hk | hk
        · exact a4 (hk.symm.trans e)
        · rw [hk] at e; injection e with e; omega
      have e1 : (W2.setCell ⟨OUT, 3, none⟩ s').heap[b]? = W2.heap[b]? := set_oth _ _ _ _ (by show b ≠ OUT; omega)
      rw [e1]
      exact (hg.block b (by omega) fun e => a4 e.symm).trans (hb.block b a2)
  refine ⟨h0, hG _ _ h1 hb3, ?_, owns_keep h31 fun g hg' => ?_, qs ++ [q], ?_, by rw [List.length_append, List.length_append, h4.2.1]; rfl, fun j hj gj => ?_⟩
  · have h22 : Row4 W2 OUT 25 (.int .i64 k) (.string T) s7 s8 := (hb2.block OUT (by omega)).trans h2
    exact Lib.heap_setCell_same (i := 3) h22 s'
  · have hg1 := h31.lt g hg'
    have e1 : (W2.setCell ⟨OUT, 3, none⟩ s').heap[g]? = W2.heap[g]? := set_oth _ _ _ _ (by show g ≠ OUT; omega)
    rw [e1]
    exact hg.block g hg1.2 fun e => owns_apart h31 h41 (by decide) hg' e.symm
  · have e2 : flat4 (qs ++ [q]) = flat4 qs ++ [q.a, q.b, q.c, q.d] := by rw [flat4_app]; rfl
    rw [e2, show (M ++ [e]).length = M.length + 1 by simp]
    exact owns_keep ho fun g hg' => set_oth _ _ _ _ (by have := (ho.lt g hg').1; show g ≠ OUT; omega)
  · have hl := h4.2.1
    by_cases hjl : j < qs.length
    · rw [List.getElem_append_left hjl, List.getElem_append_left (by omega)]
      exact NdC.keep hkeep _ (h4.2.2 j hjl (by omega))
    · rw [List.getElem_append_right (by omega), List.getElem_append_right (by omega)]
      have e1 : j - qs.length = 0 := by simp at hj; omega
      have e2 : j - M.length = 0 := by omega
      simp only [e1, e2, List.getElem_cons_zero]
      refine NdC.keep (fun b hb' => hkeep b ?_) _ he
      rcases hb' with hb' | ⟨b1, b2⟩
      · exact .inl hb'
      · exact .inr ⟨by omega, b2, fun e => by have := hwr b (.inl e); omega, fun e => by have := hwr b (.inr e); omega⟩
theorem RZ.done (hB : ∀ W, G W → Below wr.heap.size wr W ∧ wr.heap.size + 2 = OUT) (hSw : ∀ b, S b → b < wr.heap.size) (h : RZ S OUT G W0 k T s7 l7 s8 M) :
    Below wr.heap.size wr (put4 W0 (wr.heap.size + 1) (.int .i64 k) (.string T) s7 s8) ∧ NdC (New S wr (put4 W0 (wr.heap.size + 1) (.int .i64 k) (.string T) s7 s8)) (put4 W0 (wr.heap.size + 1) (.int .i64 k) (.string T) s7 s8) (.mk k T.data.toList l7 M) (.int .i64 k) (.string T) s7 s8 := by
  obtain ⟨h0, h1, h2, h3, qs, h4⟩ := h
  obtain ⟨hb0, hO⟩ := hB _ h1
  have hbb : Below (wr.heap.size + 1) W0 (put4 W0 (wr.heap.size + 1) (.int .i64 k) (.string T) s7 s8) := below_put4 (Below.refl _ _) (Nat.le_refl _) _ _ _ _
  refine ⟨hb0.trans (hbb.mono (by omega)), ?_⟩
  have hT : NdC (fun b => S b ∨ (OUT + 1 ≤ b ∧ b < W0.heap.size)) W0 (.mk k T.data.toList l7 M) (.int .i64 k) (.string T) s7 s8 := by
    rw [NdC]
    refine ⟨rfl, by rw [ba_of], rdS_of_owns h3 _ fun b hb => .inr (h3.lt b hb), ?_⟩
    exact h4.kdS (fun b hb => hb.imp id fun x => ⟨x.1, x.2.1⟩) fun b hb => .inr (h4.1.lt b hb)
  refine NdC.keep (fun b hb => ?_) _ hT
  rcases hb with hb | ⟨a1, a2⟩
  · exact ⟨.inl hb, hbb.block b (by have := hSw b hb; omega)⟩
  · exact ⟨.inr ⟨by omega, by rw [put4_size]; exact a2⟩, put4_oth b (by omega) _ _ _ _⟩
end
/- ### At a map: the row of sorted keys beside the node that grows; the box of a found kid. -/
theorem rd_keep {w w' : World} {v : Value} {l : List L8} (h : Rd w v l) (hs : w.heap.size ≤ w'.heap.size) (hk : ∀ g, v.ownBlock = some g → w'.heap[g]? = w.heap[g]?) : Rd w' v l := by
  obtain ⟨a, cap, rfl, h1, h2, h3⟩ := h
  refine ⟨a, cap, rfl, h1, h2, ?_⟩
  rcases h3 with h3 | ⟨b, o, rfl, h4, h5⟩
  · exact .inl h3
  · exact .inr ⟨b, o, rfl, Nat.lt_of_lt_of_le h4 hs, fun j hj => (World.cell?_of_block (hk b rfl)).trans (h5 j hj)⟩
/-- The sorted keys, apart from what grows. -/
def KL (OUT : Nat) (W : World) (lv : Value) (L : List L8) (s7 s8 : Value) : Prop :=
  Rd W lv L ∧ ∀ g, lv.ownBlock = some g → OUT + 1 ≤ g ∧ g < W.heap.size ∧ s7.ownBlock ≠ some g ∧ s8.ownBlock ≠ some g
section
variable {OUT : Nat} {W0 W1 W2 : World} {lv : Value} {L : List L8} {s7 s8 s7' s8' : Value}
theorem KL.go (h : KL OUT W0 lv L s7 s8) (hb : Below W0.heap.size W0 W1) : KL OUT W1 lv L s7 s8 :=
  ⟨h.1.below hb, fun g hg => ⟨(h.2 g hg).1, Nat.lt_of_lt_of_le (h.2 g hg).2.1 hb.size, (h.2 g hg).2.2⟩⟩
theorem KL.turn (h : KL OUT W0 lv L s7 s8) (hb : Below W0.heap.size W0 W1) {row : Option Nat} (hg : W1.grownBy W2 row) (hr : row = s7.ownBlock ∨ row = s8.ownBlock) (i : Nat) (x : Value)
    (h7 : s7'.ownBlock = s7.ownBlock ∨ s7'.ownBlock = some W1.heap.size) (h8 : s8'.ownBlock = s8.ownBlock ∨ s8'.ownBlock = some W1.heap.size) : KL OUT (W2.setCell ⟨OUT, i, none⟩ x) lv L s7' s8' := by
  have hs := hb.size
  have hs2 := hg.size
  have hrow : ∀ g, lv.ownBlock = some g → row ≠ some g := fun g hg' => by
    rcases hr with rfl | rfl
    · exact (h.2 g hg').2.2.1
    · exact (h.2 g hg').2.2.2
  refine ⟨rd_keep (rd_grown (h.1.below hb) hg hrow) (by simp) fun g hg' => set_oth _ _ _ _ ?_, fun g hg' => ?_⟩
  · have := (h.2 g hg').1
    show g ≠ OUT
    omega
  · obtain ⟨a1, a2, a3, a4⟩ := h.2 g hg'
    refine ⟨a1, by rw [show (W2.setCell ⟨OUT, i, none⟩ x).heap.size = W2.heap.size by simp]; omega, fun e => ?_, fun e => ?_⟩
    · rcases h7 with h7 | h7
      · exact a3 (h7.symm.trans e)
      · rw [h7] at e; injection e with e; omega
    · rcases h8 with h8 | h8
      · exact a4 (h8.symm.trans e)
      · rw [h8] at e; injection e with e; omega
end
/-- A found kid in its box, apart from what grows. -/
def VB (S : Nat → Prop) (OUT gb : Nat) (W : World) (e : Nd) (v0 v1 v2 v3 s7 s8 : Value) : Prop :=
  OUT + 1 ≤ gb ∧ Row4 W gb 25 v0 v1 v2 v3 ∧ NdC S W e v0 v1 v2 v3 ∧ s7.ownBlock ≠ some gb ∧ s8.ownBlock ≠ some gb
section
variable {S : Nat → Prop} {OUT gb : Nat} {W0 W1 W2 : World} {e : Nd} {v0 v1 v2 v3 s7 s8 s7' : Value}
theorem VB.go (hS : ∀ b, S b → b < OUT) (h : VB S OUT gb W0 e v0 v1 v2 v3 s7 s8) (hb : Below W0.heap.size W0 W1) : VB S OUT gb W1 e v0 v1 v2 v3 s7 s8 := by
  have hlt := h.2.1.lt
  have h1 := h.1
  exact ⟨h.1, h.2.1.below hb hlt, NdC.keep (fun b hx => ⟨hx, hb.block b (by have := hS b hx; omega)⟩) e h.2.2.1, h.2.2.2⟩
theorem VB.keys (hS : ∀ b, S b → b < OUT) (h : VB S OUT gb W0 e v0 v1 v2 v3 s7 s8) (hb : Below W0.heap.size W0 W1) (hg : W1.grownBy W2 s7.ownBlock) (hl : ∀ g, s7.ownBlock = some g → OUT + 1 ≤ g) (x : Value) (h7 : s7'.ownBlock = s7.ownBlock ∨ s7'.ownBlock = some W1.heap.size) :
    VB S OUT gb (W2.setCell ⟨OUT, 2, none⟩ x) e v0 v1 v2 v3 s7' s8 := by
  have hlt := h.2.1.lt
  have h1 := h.1
  have hs := hb.size
  have key : ∀ b, b < W0.heap.size → s7.ownBlock ≠ some b → b ≠ OUT → (W2.setCell ⟨OUT, 2, none⟩ x).heap[b]? = W0.heap[b]? := fun b hx hn ho => by
    rw [set_oth _ _ _ _ (by show b ≠ OUT; exact ho)]
    exact (hg.block b (by omega) fun e => hn e.symm).trans (hb.block b hx)
  refine ⟨h.1, (key gb hlt h.2.2.2.1 (by omega)).trans h.2.1, NdC.keep (fun b hx => ⟨hx, key b (by have := hS b hx; omega) (fun e => by have := hl b e; have := hS b hx; omega) (by have := hS b hx; omega)⟩) e h.2.2.1, fun e => ?_, h.2.2.2.2⟩
  rcases h7 with h7 | h7
  · exact h.2.2.2.1 (h7.symm.trans e)
  · rw [h7] at e; injection e with e; omega
end
/-- What only read or made memory since wr. -/
def SQ (wr W : World) : Prop := Below wr.heap.size wr W
theorem cell_far {wr W : World} {p : Addr} {v : Value} (h : wr.cell? p = some v) (hb : Below wr.heap.size wr W) : W.cell? p = some v := (hb.cell (cell_lt h)).trans h
end Go.Proofs.Ytgingebdoppdbaa
