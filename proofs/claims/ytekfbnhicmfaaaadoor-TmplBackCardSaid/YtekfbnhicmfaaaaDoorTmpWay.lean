/- Words on memory: rows of the call's own, what is kept where one of them grows; append of a string (out of the texts of flow). -/
import Derived.Test.YtekfbnhicmfaaaaDoorTmpOwn
import Derived.Test.YtekfbnhicmfaaaaDoorTmpMem
import Derived.Maps.AppendAt
import Derived.Lib.SliceRun
import Derived.Lib.AppendStr
import Derived.Deep.AppendLies
import Derived.Deep.RegionLaw
import Derived.Deep.RegionHeld3
import Derived.Deep.CutRange
import Derived.Deep.LoopGhost
import Derived.Lib.BufferMore
import Derived.Lib.OwnBridge
import Derived.Laws.AppendOwnNone
namespace Go.Proofs.YtekfbnhicmfaaaaDoor
open Go.RowKit Go.Sort
open Nw Go.ChangeShapes Go.WideShapes
set_option linter.unusedVariables false
theorem cell_lt {W : World} {p : Addr} {v : Value} (h : W.cell? p = some v) : p.block < W.heap.size := by
  rcases Nat.lt_or_ge p.block W.heap.size with h1 | h1
  · exact h1
  · have : W.heap[p.block]? = none := Array.getElem?_eq_none h1
    simp [World.cell?, this] at h
theorem owns_keep {w w' : World} {base n size : Nat} {e : TypeId} {v : Value} {xs : List Value} (h : w.ownsRow base e size v n xs) (hr : ∀ g, v.ownBlock = some g → w'.heap[g]? = w.heap[g]?) : w'.ownsRow base e size v n xs := by
  refine ⟨h.1, ?_⟩
  rcases h.2 with h0 | ⟨g, cap, cur, h1, h2, h3, h4⟩
  · exact .inl h0
  · exact .inr ⟨g, cap, cur, h1, h2, (hr g (by rw [h1]; rfl)).trans h3, h4⟩
theorem owns_low {w : World} {base base' n size : Nat} {e : TypeId} {v : Value} {xs : List Value} (h : w.ownsRow base e size v n xs) (hb : base' ≤ base) : w.ownsRow base' e size v n xs := by
  refine ⟨h.1, ?_⟩
  rcases h.2 with h0 | ⟨g, cap, cur, h0, hg, r⟩
  · exact .inl h0
  · exact .inr ⟨g, cap, cur, h0, Nat.le_trans hb hg, r⟩
theorem owns_below {w w' : World} {base n size : Nat} {e : TypeId} {v : Value} {xs : List Value} (h : w.ownsRow base e size v n xs) (hb : Below w.heap.size w w') : w'.ownsRow base e size v n xs :=
  owns_keep h fun g hg => hb.block g (h.lt g hg).2
/-- Rows of elements of different types lie apart. -/
theorem owns_apart {w : World} {base base' n n' size size' : Nat} {e e' : TypeId} {v v' : Value} {xs xs' : List Value} (h : w.ownsRow base e size v n xs) (h' : w.ownsRow base' e' size' v' n' xs') (hne : e ≠ e') {g : Nat} (hg : v.ownBlock = some g) : v'.ownBlock ≠ some g := by
  intro hg'
  rcases h.2 with ⟨h0, _⟩ | ⟨g1, cap, cur, h1, h2, h3, h4⟩
  · rw [h0] at hg; cases hg
  · rcases h'.2 with ⟨h0, _⟩ | ⟨g2, cap', cur', k1, k2, k3, k4⟩
    · rw [h0] at hg'; cases hg'
    · rw [h1] at hg
      rw [k1] at hg'
      have e1 : g1 = g := by injection hg
      have e2 : g2 = g := by injection hg'
      subst e1; subst e2
      rw [h3] at k3
      injection k3 with k3
      injection k3 with _ k3 _
      exact hne k3
theorem cells_alloc {w : World} {o : Obj} {p : Addr} {v : Value} (h : w.cell? p = some v) : (w.alloc o).cell? p = some v :=
  (World.cell?_of_block (Below.heap_alloc w o p.block (cell_lt h))).trans h
theorem one_str (x : ByteArray) : ∀ u ∈ [Value.string x], u.oneCell' = true := by
  intro u hu
  rw [List.mem_singleton] at hu
  subst hu; rfl
/-- A cell is kept where another block grows. -/
theorem cell_grown {w w' : World} {row : Option Nat} {p : Addr} {v : Value} (h : w.cell? p = some v) (hg : w.grownBy w' row) (hne : row ≠ some p.block) : w'.cell? p = some v := hg.cell h fun e => hne e.symm
theorem news_blk {w : World} {B : Nat} (cs : Array Value) {t : TypeId} (hb : w.heap[B]? = some (.cells cs t (0, 0))) : ∀ j u, cs.toList[j]? = some u → w.cell? ((⟨B, 0, none⟩ : Addr).add j) = some u := by
  intro j u h
  rw [add_plain, Nat.zero_add, cell_of_row _ _ j cs t (0, 0) hb]
  simpa using h
theorem alloc_at (w : World) (o : Obj) : (w.alloc o).heap[w.heap.size]? = some o := heap_alloc_new w o
theorem alloc_at1 (w : World) (o p : Obj) : ((w.alloc p).alloc o).heap[w.heap.size + 1]? = some o := by
  have := heap_alloc_new (w.alloc p) o
  rwa [show (w.alloc p).heap.size = w.heap.size + 1 by simp] at this
theorem alloc_at0 (w : World) (o p : Obj) : ((w.alloc o).alloc p).heap[w.heap.size]? = some o := (Below.heap_alloc (w.alloc o) p w.heap.size (by simp)).trans (heap_alloc_new w o)
theorem set_oth (w : World) (p : Addr) (v : Value) (b : Nat) (hb : b ≠ p.block) : (w.setCell p v).heap[b]? = w.heap[b]? := Below.heap_setCell _ _ _ _ hb
theorem take_map_snoc {ks : List L8} {j : Nat} (hj : j < ks.length) : (ks.take (j + 1)).map encStr = (ks.take j).map encStr ++ [.string (ba (ks[j]'hj))] := by
  rw [List.take_succ_eq_append_getElem hj, List.map_append]; rfl
theorem cell_set {w : World} {p r : Addr} {u x : Value} (h : w.cell? p = some u) (hp : p.block ≠ r.block) : (w.setCell r x).cell? p = some u := (World.cell?_of_block (set_oth _ _ _ _ hp)).trans h
theorem frozen_grown {w w' : World} {row : Option Nat} {p : Addr} (h : w.frozen? p = false) (hg : w.grownBy w' row) (hlt : p.block < w.heap.size) (hne : row ≠ some p.block) : w'.frozen? p = false :=
  (World.frozen?_of_block (hg.block p.block hlt fun e => hne e.symm)).trans h
theorem own_shape {w : World} {base n size : Nat} {e : TypeId} {v : Value} {xs : List Value} (h : w.ownsRow base e size v n xs) : ∃ a c, v = .slice a n c := by
  rcases h.2 with ⟨h0, h1⟩ | ⟨g, cap, cur, h0, _⟩
  · subst h1; exact ⟨_, _, h0⟩
  · exact ⟨_, _, h0⟩
theorem frozen_alloc {w : World} {o : Obj} {p : Addr} (h : w.frozen? p = false) (hlt : p.block < w.heap.size) : (w.alloc o).frozen? p = false :=
  (World.frozen?_of_block (Below.heap_alloc w o p.block hlt)).trans h
theorem rd_grown {w w' : World} {v : Value} {l : List L8} {row : Option Nat} (h : Rd w v l) (hg : w.grownBy w' row) (hne : ∀ g, v.ownBlock = some g → row ≠ some g) : Rd w' v l := by
  obtain ⟨a, cap, rfl, h1, h2, h3⟩ := h
  refine ⟨a, cap, rfl, h1, h2, ?_⟩
  rcases h3 with h3 | ⟨b, o, rfl, h4, h5⟩
  · exact .inl h3
  · exact .inr ⟨b, o, rfl, Nat.lt_of_lt_of_le h4 hg.size, fun j hj => cell_grown (h5 j hj) hg (hne b rfl)⟩
section
variable {P : Program}
/-- append(b, s...), s a string: where the slice lies. -/
theorem run_append_str_lies (w : World) (base : Nat) (t u ty e : TypeId) (i : TypeInfo) (ht : P.underlying t = some (.slice e)) (hu : P.underlying u = some .string) (hi : P.info? e = some i) (hz : i.zero = some (.int .u8 0))
    (hsize : i.size = 1) (hby : i.bytes = 1) (v : Value) (n : Nat) (xs : List Value) (hown : w.ownsRow base e 1 v n xs) (s : ByteArray) (h0 : 0 < n + s.size)
    (h63 : n + s.size ≤ maxLen) (hbytes : n + s.size ≤ 140737488355328) (hbase : base ≤ w.heap.size) :
    ∃ g cap w', (Builtin.append_ #[t, u] ty #[v, .string s]).run P w = .ok (.slice (some ⟨g, 0, none⟩) (n + s.size) cap) w' ∧ w'.ownsRow base e 1 (.slice (some ⟨g, 0, none⟩) (n + s.size) cap) (n + s.size) (xs ++ Lib.strCells s) ∧ w.grownBy w' v.ownBlock ∧ (v.ownBlock = some g ∨ w.heap.size ≤ g) := by
  obtain ⟨v', w', hr, h2, h3, h4⟩ := Lib.run_append_own_string (P := P) w base t u ty e i ht hu hi hz hsize hby v n xs hown s h63 hbytes hbase
  obtain ⟨g, cap, rfl, _, hlt⟩ := h2.form h0
  refine ⟨g, cap, w', hr, h2, h3, ?_⟩
  rcases id hown.2 with ⟨rfl, hn⟩ | ⟨g0, cap0, cur, rfl, hbg, hg, hnc, hcm, hcs, htake⟩
  · obtain ⟨v2, w2, hr2, h22, -, -⟩ := Lib.run_append_own_string (P := P) w w.heap.size t u ty e i ht hu hi hz hsize hby _ n xs ⟨hown.1, .inl ⟨rfl, hn⟩⟩ s h63 hbytes (Nat.le_refl _)
    obtain ⟨g2, cap2, rfl, hb2, -⟩ := h22.form h0
    have e1 := hr.symm.trans hr2
    injection e1 with e1
    injection e1 with e1
    injection e1 with e1
    injection e1 with e1
    right; rw [e1]; exact hb2
  · by_cases hroom : n + s.size ≤ cap0
    · left
      have hr2 := Lib.run_append_room_string (P := P) w t u ty e i ht hu hi hsize g0 n cap0 cur hg s hroom (by simpa [hcs] using hroom)
      have e1 := hr.symm.trans hr2
      injection e1 with e1
      injection e1 with e1
      injection e1 with e1
      injection e1 with e1
      rw [e1]; rfl
    · right
      have hxl : xs.length = n := by simpa using hown.1
      have holds : ∀ j u, xs[j]? = some u → w.cell? ((⟨g0, 0, none⟩ : Addr).add j) = some u := hown.cells (g := g0) rfl
      have hr2 := Lib.run_append_grow_string (P := P) w t u ty e i (.int .u8 0) ht hu hi hz ⟨g0, 0, none⟩ n cap0 xs (by rw [hsize]; simpa using hxl) holds s (by omega) (by unfold maxLen at h63; omega) (by rw [hby]; exact growslice_fits (by omega) (by omega))
      have e1 := hr.symm.trans hr2
      injection e1 with e1
      injection e1 with e1
      injection e1 with e1
      injection e1 with e1
      rw [e1]; exact Nat.le_refl _
theorem wpList_str_lies {w : World} {ops : Array Oper} {rest : List Oper} {o : Oper} {a : Act} {Q : Exit → Act → World → Prop} (hgd : o.guard = none) (sl x : Operand) (t u : TypeId)
    (ho : o.op = .call { callee := .builtin .append, args := #[sl, x], argTypes := #[t, u] })
    (base : Nat) (e : TypeId) (i : TypeInfo) (ht : P.underlying t = some (.slice e)) (hu : P.underlying u = some .string) (hi : P.info? e = some i) (hz : i.zero = some (.int .u8 0))
    (hsize : i.size = 1) (hby : i.bytes = 1)
    (v : Value) (n : Nat) (xs : List Value) (hs : a.eval sl = v) (hown : w.ownsRow base e 1 v n xs) (s : ByteArray) (hx : a.eval x = .string s) (h0 : 0 < n + s.size)
    (h63 : n + s.size ≤ maxLen) (hbytes : n + s.size ≤ 140737488355328) (hbase : base ≤ w.heap.size)
    (h : ∀ g cap w', w'.ownsRow base e 1 (.slice (some ⟨g, 0, none⟩) (n + s.size) cap) (n + s.size) (xs ++ Lib.strCells s) → w.grownBy w' v.ownBlock → (v.ownBlock = some g ∨ w.heap.size ≤ g) → wpList P ops Q rest (a.put o.dst (.slice (some ⟨g, 0, none⟩) (n + s.size) cap)) w') : wpList P ops Q (o :: rest) a w := by
  refine wpList_plain hgd fun K hK => ?_
  obtain ⟨g, cap, w', hr, h2, h3, h4⟩ := run_append_str_lies (P := P) w base t u o.type e i ht hu hi hz hsize hby v n xs hown s h0 h63 hbytes hbase
  unfold Oper.wp execOp
  simp only [ho, resolve, invoke, builtin, Sem.run_bind, Sem.run_pure, Result.andThen_ok, List.map_toArray, List.map_cons, List.map_nil, hs, hx, hr]
  exact hK _ _ (h g cap w' h2 h3 h4)
end
theorem gro_trans {a b c : World} {r r1 : Option Nat} (h : a.grownBy b r) (k : b.grownBy c r1) (hr : ∀ g, r1 = some g → r = some g ∨ a.heap.size ≤ g) : a.grownBy c r :=
  ⟨k.os.trans h.os, k.tape.trans h.tape, k.output.trans h.output, Nat.le_trans h.size k.size, fun i hi hne => (k.block i (Nat.lt_of_lt_of_le hi h.size) (fun e => (hr i e.symm).elim (fun e2 => hne e2.symm) (fun e2 => by omega))).trans (h.block i hi hne)⟩
theorem gro_below {a b c : World} {r : Option Nat} (h : a.grownBy b r) (k : Below b.heap.size b c) : a.grownBy c r :=
  ⟨k.os.trans h.os, k.tape.trans h.tape, k.output.trans h.output, Nat.le_trans h.size k.size, fun i hi hne => (k.block i (Nat.lt_of_lt_of_le hi h.size)).trans (h.block i hi hne)⟩
/-- What a call gives that appends to v: a slice of the bytes l; whatever else there was is kept. -/
def Apd (w w' : World) (base : Nat) (v : Value) (l : L8) (e : Ending) : Prop :=
  ∃ g m cap, e = .returned (.slice (some ⟨g, 0, none⟩) m cap) ∧ w'.ownsRow base 5 1 (.slice (some ⟨g, 0, none⟩) m cap) m (l.map encB) ∧ w.grownBy w' v.ownBlock ∧ (v.ownBlock = some g ∨ w.heap.size ≤ g)
/-- A slice on the way: g was its block, or it has come since. -/
def KS (W1 : World) (base : Nat) (r : Option Nat) (W : World) (g m cap : Nat) (L : L8) : Prop :=
  W.ownsRow base 5 1 (.slice (some ⟨g, 0, none⟩) m cap) m (L.map encB) ∧ W1.grownBy W r ∧ (r = some g ∨ W1.heap.size ≤ g)
section
variable {W1 W W' : World} {base g m cap : Nat} {r : Option Nat} {L : L8}
theorem KS.len (h : KS W1 base r W g m cap L) : L.length = m := own_len h.1
theorem KS.lt (h : KS W1 base r W g m cap L) : base ≤ g ∧ g < W.heap.size := h.1.lt g rfl
theorem KS.below (h : KS W1 base r W g m cap L) (hb : Below W.heap.size W W') : KS W1 base r W' g m cap L := ⟨owns_below h.1 hb, gro_below h.2.1 hb, h.2.2⟩
theorem KS.alloc (h : KS W1 base r W g m cap L) (o : Obj) : KS W1 base r (W.alloc o) g m cap L := h.below ((Below.refl _ _).alloc (Nat.le_refl _) o)
theorem KS.app (h : KS W1 base r W g m cap L) {x L' : L8} {xs : List Value} {g2 m2 cap2 : Nat} (hL : L' = L ++ x) (hxs : xs = L.map encB ++ x.map encB) (ho : W'.ownsRow base 5 1 (.slice (some ⟨g2, 0, none⟩) m2 cap2) m2 xs) (hg : W.grownBy W' (some g)) (hat : some g = some g2 ∨ W.heap.size ≤ g2) : KS W1 base r W' g2 m2 cap2 L' := by
  subst hL; subst hxs
  rw [← List.map_append] at ho
  refine ⟨ho, gro_trans h.2.1 hg (fun k hk => ?_), ?_⟩
  · injection hk with hk; subst hk; exact h.2.2
  · rcases hat with e | e
    · injection e with e; subst e; exact h.2.2
    · right; have := h.2.1.size; omega
theorem KS.apd (h : KS W1 base r W g m cap L) {x L' : L8} {e : Ending} (hL : L' = L ++ x) (ha : Apd W W' base (.slice (some ⟨g, 0, none⟩) m cap) L' e) : ∃ g2 m2 cap2, e = .returned (.slice (some ⟨g2, 0, none⟩) m2 cap2) ∧ KS W1 base r W' g2 m2 cap2 L' := by
  obtain ⟨g2, m2, cap2, he, ho, hg, hat⟩ := ha
  subst hL
  exact ⟨g2, m2, cap2, he, h.app rfl (List.map_append ..) ho hg hat⟩
theorem KS.done (h : KS W1 base r W g m cap L) {w : World} {v : Value} (hw : w.grownBy W1 v.ownBlock) (hr : v.ownBlock = r) : Apd w W base v L (.returned (.slice (some ⟨g, 0, none⟩) m cap)) := by
  refine ⟨g, m, cap, rfl, h.1, gro_trans hw h.2.1 (fun k hk => .inl (hr.trans hk)), ?_⟩
  rcases h.2.2 with e | e
  · exact .inl (hr.trans e)
  · right; have := hw.size; omega
end
theorem str_enc (s : ByteArray) : Lib.strCells s = s.data.toList.map encB := rfl
@[reducible] def Cells4 (g : Nat) (a b c d : Value) (w : World) : Prop :=
  g < w.heap.size ∧ w.cell? ⟨g, 0, none⟩ = some a ∧ w.cell? ⟨g, 1, none⟩ = some b ∧ w.cell? ⟨g, 2, none⟩ = some c ∧ w.cell? ⟨g, 3, none⟩ = some d
theorem keep4_alloc {g : Nat} {a b c d : Value} {w : World} {o : Obj} (h : Cells4 g a b c d w) : Cells4 g a b c d (w.alloc o) :=
  ⟨by simp; have := h.1; omega, cells_alloc h.2.1, cells_alloc h.2.2.1, cells_alloc h.2.2.2.1, cells_alloc h.2.2.2.2⟩
theorem keep4_grown {g : Nat} {a b c d : Value} {w w' : World} {row : Option Nat} (hg : w.grownBy w' row) (hn : row ≠ some g) (h : Cells4 g a b c d w) : Cells4 g a b c d w' :=
  ⟨Nat.lt_of_lt_of_le h.1 hg.size, cell_grown h.2.1 hg hn, cell_grown h.2.2.1 hg hn, cell_grown h.2.2.2.1 hg hn, cell_grown h.2.2.2.2 hg hn⟩
theorem ownb_lt {w : World} {base n : Nat} {v : Value} {xs : List Value} (h : w.ownsRow base 5 1 v n xs) : ∀ g, v.ownBlock = some g → base ≤ g ∧ g < w.heap.size := fun g hg => h.lt g hg
theorem zz_new {wA wB : World} {gA : Nat} {O : Obj} (hB : (wA.alloc O).grownBy wB (some gA)) (hlt : gA < wA.heap.size) : wB.heap[wA.heap.size]? = some O :=
  (hB.block _ (by simp) (fun e => by injection e with e; omega)).trans (alloc_at _ _)
theorem zz_old {W1 W wA wB : World} {v : Value} {gA k : Nat} {O : Obj} (hA : W.grownBy wA v.ownBlock) (hB : wA.grownBy wB (some gA)) (hat : v.ownBlock = some gA ∨ gA = W.heap.size) (hv : ∀ k, v.ownBlock = some k → k < W1.heap.size) (hk : W.heap[k]? = some O) (hle : W1.heap.size ≤ k) : wB.heap[k]? = some O := by
  have hlt : k < W.heap.size := by
    rcases Nat.lt_or_ge k W.heap.size with h | h
    · exact h
    · rw [Array.getElem?_eq_none h] at hk; cases hk
  have hs := hA.size
  refine (hB.block k (by omega) (fun e => ?_)).trans ((hA.block k hlt (fun e => ?_)).trans hk)
  · injection e with e
    rcases hat with h | h
    · have := hv _ h; omega
    · omega
  · have := hv _ e.symm; omega
theorem some_ne {a b : Nat} (h : a ≠ b) : (some a : Option Nat) ≠ some b := fun e => h (by injection e)
theorem KS.ne {W1 W : World} {base g m cap H : Nat} {r : Option Nat} {L : L8} (h : KS W1 base r W g m cap L) (hr : r ≠ some H) (hH : H < W1.heap.size) : g ≠ H := by
  rcases h.2.2 with e | e
  · rintro rfl; exact hr e
  · omega
theorem grown_set13 (w : World) (g : Nat) (i : Nat) (v : Value) : w.grownBy (w.setCell ⟨g, i, none⟩ v) (some g) := ⟨rfl, rfl, rfl, by simp [World.setCell], fun k _ hne => Below.heap_setCell _ _ _ k fun e => hne (by rw [show k = g from e])⟩
end Go.Proofs.YtekfbnhicmfaaaaDoor
