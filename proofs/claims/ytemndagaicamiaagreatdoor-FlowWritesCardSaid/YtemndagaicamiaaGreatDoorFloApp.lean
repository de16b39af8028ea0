/- A slice of bytes that a call appends to: where it lies, what else is kept. -/
import Derived.Test.YtemndagaicamiaaGreatDoorMergeQ
import Derived.Test.YtemndagaicamiaaGreatDoorNdRow
import Derived.Test.YtemndagaicamiaaGreatDoorMergeM
import Derived.Test.YtemndagaicamiaaGreatDoorRefNod2
import Derived.Lib.AppendStr
import Derived.Deep.AppendLies
namespace Go.Proofs.YtemndagaicamiaaGreatDoor
open Go.RowKit Go.Sort
open Nw N8 Q6 F9
set_option linter.unusedVariables false
section
variable {P : Program}
/-- append(b, s...), s a string: where the slice lies. -/
theorem run_append_str_lies (w : World) (base : Nat) (t u ty e : TypeId) (i : TypeInfo) (ht : P.underlying t = some (.slice e)) (hu : P.underlying u = some .string) (hi : P.info? e = some i) (hz : i.zero = some (.int .u8 0))
    (hsize : i.size = 1) (hby : i.bytes = 1) (v : Value) (n : Nat) (xs : List Value) (hown : w.ownsRow base e 1 v n xs) (s : ByteArray) (h0 : 0 < n + s.size)
    (h63 : n + s.size ≤ maxLen) (hbytes : n + s.size ≤ 140737488355328) (hbase : base ≤ w.heap.size) :
    ∃ g cap w', (Builtin.append_ #[t, u] ty #[v, .string s]).run P w = .ok (.slice (some ⟨g, 0, none⟩) (n + s.size) cap) w' ∧ w'.ownsRow base e 1 (.slice (some ⟨g, 0, none⟩) (n + s.size) cap) (n + s.size) (xs ++ Lib.strCells s) ∧ w.grownBy w' v.ownBlock ∧ (v.ownBlock = some g ∨ w.heap.size ≤ g) := by
  obtain ⟨v', w', hr, h2, h3, h4⟩ := Lib.run_append_own_string (P := P) w base t u ty e i ht hu hi hz hsize hby v n xs hown s h63 hbytes hbase
  obtain ⟨g, cap, rfl, _, hlt⟩ := h2.form h0
  refine ⟨g, cap, w', hr, h2, h3, ?_⟩
  rcases id hown.2 with ⟨rfl, hn⟩ | ⟨g0, cap0, cur, rfl, hbg, hg, hnc, hcm, hcs, htake⟩
  · obtain ⟨v2, w2, hr2, h22, -, -⟩ := Lib.run_append_own_string (P := P) w w.heap.size t u ty e i ht hu hi hz hsize hby _ n xs ⟨hown.1, .inl ⟨rfl, hn⟩⟩ s h63 hbytes (Nat.le_refl _)
    obtain ⟨g2, cap2, rfl, hb2, -⟩ := h22.form h0
    have e1 := hr.symm.trans hr2
    injection e1 with e1
    injection e1 with e1
    injection e1 with e1
    injection e1 with e1
    right; rw [e1]; exact hb2
  · by_cases hroom : n + s.size ≤ cap0
    · left
      have hr2 := Lib.run_append_room_string (P := P) w t u ty e i ht hu hi hsize g0 n cap0 cur hg s hroom (by simpa [hcs] using hroom)
      have e1 := hr.symm.trans hr2
      injection e1 with e1
      injection e1 with e1
      injection e1 with e1
      injection e1 with e1
      rw [e1]; rfl
    · right
      have hxl : xs.length = n := by simpa using hown.1
      have holds : ∀ j u, xs[j]? = some u → w.cell? ((⟨g0, 0, none⟩ : Addr).add j) = some u := hown.cells (g := g0) rfl
      have hr2 := Lib.run_append_grow_string (P := P) w t u ty e i (.int .u8 0) ht hu hi hz ⟨g0, 0, none⟩ n cap0 xs (by rw [hsize]; simpa using hxl) holds s (by omega) (by unfold maxLen at h63; omega) (by rw [hby]; exact growslice_fits (by omega) (by omega))
      have e1 := hr.symm.trans hr2
      injection e1 with e1
      injection e1 with e1
      injection e1 with e1
      injection e1 with e1
      rw [e1]; exact Nat.le_refl _
theorem wpList_str_lies {w : World} {ops : Array Oper} {rest : List Oper} {o : Oper} {a : Act} {Q : Exit → Act → World → Prop} (hgd : o.guard = none) (sl x : Operand) (t u : TypeId)
    (ho : o.op = .call { callee := .builtin .append, args := #[sl, x], argTypes := #[t, u] })
    (base : Nat) (e : TypeId) (i : TypeInfo) (ht : P.underlying t = some (.slice e)) (hu : P.underlying u = some .string) (hi : P.info? e = some i) (hz : i.zero = some (.int .u8 0))
    (hsize : i.size = 1) (hby : i.bytes = 1)
    (v : Value) (n : Nat) (xs : List Value) (hs : a.eval sl = v) (hown : w.ownsRow base e 1 v n xs) (s : ByteArray) (hx : a.eval x = .string s) (h0 : 0 < n + s.size)
    (h63 : n + s.size ≤ maxLen) (hbytes : n + s.size ≤ 140737488355328) (hbase : base ≤ w.heap.size)
    (h : ∀ g cap w', w'.ownsRow base e 1 (.slice (some ⟨g, 0, none⟩) (n + s.size) cap) (n + s.size) (xs ++ Lib.strCells s) → w.grownBy w' v.ownBlock → (v.ownBlock = some g ∨ w.heap.size ≤ g) → wpList P ops Q rest (a.put o.dst (.slice (some ⟨g, 0, none⟩) (n + s.size) cap)) w') : wpList P ops Q (o :: rest) a w := by
  refine wpList_plain hgd fun K hK => ?_
  obtain ⟨g, cap, w', hr, h2, h3, h4⟩ := run_append_str_lies (P := P) w base t u o.type e i ht hu hi hz hsize hby v n xs hown s h0 h63 hbytes hbase
  unfold Oper.wp execOp
  simp only [ho, resolve, invoke, builtin, Sem.run_bind, Sem.run_pure, Result.andThen_ok, List.map_toArray, List.map_cons, List.map_nil, hs, hx, hr]
  exact hK _ _ (h g cap w' h2 h3 h4)
end
theorem gro_trans {a b c : World} {r r1 : Option Nat} (h : a.grownBy b r) (k : b.grownBy c r1) (hr : ∀ g, r1 = some g → r = some g ∨ a.heap.size ≤ g) : a.grownBy c r :=
  ⟨k.os.trans h.os, k.tape.trans h.tape, k.output.trans h.output, Nat.le_trans h.size k.size, fun i hi hne => (k.block i (Nat.lt_of_lt_of_le hi h.size) (fun e => (hr i e.symm).elim (fun e2 => hne e2.symm) (fun e2 => by omega))).trans (h.block i hi hne)⟩
theorem gro_below {a b c : World} {r : Option Nat} (h : a.grownBy b r) (k : Below b.heap.size b c) : a.grownBy c r :=
  ⟨k.os.trans h.os, k.tape.trans h.tape, k.output.trans h.output, Nat.le_trans h.size k.size, fun i hi hne => (k.block i (Nat.lt_of_lt_of_le hi h.size)).trans (h.block i hi hne)⟩
/-- What a call gives that appends to v: a slice of the bytes l; whatever else there was is kept. -/
def Apd (w w' : World) (base : Nat) (v : Value) (l : L8) (e : Ending) : Prop :=
  ∃ g m cap, e = .returned (.slice (some ⟨g, 0, none⟩) m cap) ∧ w'.ownsRow base 5 1 (.slice (some ⟨g, 0, none⟩) m cap) m (l.map encB) ∧ w.grownBy w' v.ownBlock ∧ (v.ownBlock = some g ∨ w.heap.size ≤ g)
/-- A slice on the way: g was its block, or it has come since. -/
def KS (W1 : World) (base : Nat) (r : Option Nat) (W : World) (g m cap : Nat) (L : L8) : Prop :=
  W.ownsRow base 5 1 (.slice (some ⟨g, 0, none⟩) m cap) m (L.map encB) ∧ W1.grownBy W r ∧ (r = some g ∨ W1.heap.size ≤ g)
section
variable {W1 W W' : World} {base g m cap : Nat} {r : Option Nat} {L : L8}
theorem KS.len (h : KS W1 base r W g m cap L) : L.length = m := own_len h.1
theorem KS.lt (h : KS W1 base r W g m cap L) : base ≤ g ∧ g < W.heap.size := h.1.lt g rfl
theorem KS.below (h : KS W1 base r W g m cap L) (hb : Below W.heap.size W W') : KS W1 base r W' g m cap L := ⟨owns_below h.1 hb, gro_below h.2.1 hb, h.2.2⟩
theorem KS.alloc (h : KS W1 base r W g m cap L) (o : Obj) : KS W1 base r (W.alloc o) g m cap L := h.below ((Below.refl _ _).alloc (Nat.le_refl _) o)
theorem KS.app (h : KS W1 base r W g m cap L) {x L' : L8} {xs : List Value} {g2 m2 cap2 : Nat} (hL : L' = L ++ x) (hxs : xs = L.map encB ++ x.map encB) (ho : W'.ownsRow base 5 1 (.slice (some ⟨g2, 0, none⟩) m2 cap2) m2 xs) (hg : W.grownBy W' (some g)) (hat : some g = some g2 ∨ W.heap.size ≤ g2) : KS W1 base r W' g2 m2 cap2 L' := by
  subst hL; subst hxs
  rw [← List.map_append] at ho
  refine ⟨ho, gro_trans h.2.1 hg (fun k hk => ?_), ?_⟩
  · injection hk with hk; subst hk; exact h.2.2
  · rcases hat with e | e
    · injection e with e; subst e; exact h.2.2
    · right; have := h.2.1.size; omega
theorem KS.apd (h : KS W1 base r W g m cap L) {x L' : L8} {e : Ending} (hL : L' = L ++ x) (ha : Apd W W' base (.slice (some ⟨g, 0, none⟩) m cap) L' e) : ∃ g2 m2 cap2, e = .returned (.slice (some ⟨g2, 0, none⟩) m2 cap2) ∧ KS W1 base r W' g2 m2 cap2 L' := by
  obtain ⟨g2, m2, cap2, he, ho, hg, hat⟩ := ha
  subst hL
  exact ⟨g2, m2, cap2, he, h.app rfl (List.map_append ..) ho hg hat⟩
theorem KS.box {H : Nat} {t : TypeId} {a b c d : Value} (h : KS W1 base r W g m cap L) (hB : Row4 W1 H t a b c d) (hne : r ≠ some H) : Row4 W H t a b c d :=
  (h.2.1.block H hB.lt fun e => hne e.symm).trans hB
theorem gro_nd {W1 W : World} {base : Nat} {r : Option Nat} (h : W1.grownBy W r) (hs : base ≤ W1.heap.size) (hr : ∀ g, r = some g → base ≤ g) {d : Nd} {c0 c1 c2 c3 : Value} (hd : NdC (· < base) W1 d c0 c1 c2 c3) : NdC (· < base) W d c0 c1 c2 c3 :=
  NdC.keep (fun b hb => ⟨hb, h.block b (by have : b < base := hb; omega) fun e => by have := hr b e.symm; have : b < base := hb; omega⟩) _ hd
theorem KS.done (h : KS W1 base r W g m cap L) {w : World} {v : Value} (hw : w.grownBy W1 v.ownBlock) (hr : v.ownBlock = r) : Apd w W base v L (.returned (.slice (some ⟨g, 0, none⟩) m cap)) := by
  refine ⟨g, m, cap, rfl, h.1, gro_trans hw h.2.1 (fun k hk => .inl (hr.trans hk)), ?_⟩
  rcases h.2.2 with e | e
  · exact .inl (hr.trans e)
  · right; have := hw.size; omega
end
/-- The same beside a box. -/
def KR (W1 : World) (base : Nat) (r : Option Nat) (W : World) (g m cap : Nat) (L : L8) (gx : Nat) (a b c d : Value) : Prop := KS W1 base r W g m cap L ∧ Row4 W gx 25 a b c d ∧ g ≠ gx
section
variable {W1 W W' : World} {base g m cap gx : Nat} {r : Option Nat} {L : L8} {a b c d : Value}
theorem KR.first (h : KS W1 base r W g m cap L) (a b c d : Value) : KR W1 base r (W.alloc (.cells #[a, b, c, d] 25)) g m cap L W.heap.size a b c d :=
  ⟨h.alloc _, Row4.make W _ a b c d, by have := h.lt.2; omega⟩
theorem KR.below (h : KR W1 base r W g m cap L gx a b c d) (hb : Below W.heap.size W W') : KR W1 base r W' g m cap L gx a b c d := ⟨h.1.below hb, h.2.1.below hb h.2.1.lt, h.2.2⟩
theorem KR.app (h : KR W1 base r W g m cap L gx a b c d) {x L' : L8} {xs : List Value} {g2 m2 cap2 : Nat} (hL : L' = L ++ x) (hxs : xs = L.map encB ++ x.map encB) (ho : W'.ownsRow base 5 1 (.slice (some ⟨g2, 0, none⟩) m2 cap2) m2 xs) (hg : W.grownBy W' (some g)) (hat : some g = some g2 ∨ W.heap.size ≤ g2) : KR W1 base r W' g2 m2 cap2 L' gx a b c d := by
  refine ⟨h.1.app hL hxs ho hg hat, (hg.block gx h.2.1.lt fun e => h.2.2 (by injection e with e; exact e.symm)).trans h.2.1, ?_⟩
  rcases hat with e | e
  · injection e with e; rw [← e]; exact h.2.2
  · have := h.2.1.lt; omega
theorem KR.bs (h : KR W1 base r W g m cap L gx a b c d) (hb : base ≤ W1.heap.size) : base ≤ W.heap.size := Nat.le_trans hb h.1.2.1.size
end
theorem gro_same {W1 w0 W : World} {base : Nat} {r : Option Nat} (h : W1.grownBy w0 r) (k : W1.grownBy W r) (hs : base ≤ W1.heap.size) (hr : ∀ g, r = some g → base ≤ g) (b : Nat) (hb : b < base) : W.heap[b]? = w0.heap[b]? :=
  (k.block b (by omega) fun e => by have := hr b e.symm; omega).trans (h.block b (by omega) fun e => by have := hr b e.symm; omega).symm
theorem rdS_at {S : Nat → Prop} {w : World} {a : Option Addr} {n cap : Nat} {l : List L8} (h : RdS S w (.slice a n cap) l) (j : Nat) (hj : j < l.length) :
    ∃ b o, a = some ⟨b, o, none⟩ ∧ S b ∧ w.cell? ⟨b, o + j, none⟩ = some (.string (ba (l[j]'hj))) := by
  obtain ⟨a', cap', hv, h1, h2, h3⟩ := h
  have hAe : a = a' := by injection hv
  subst hAe
  rcases h3 with ⟨h3, _⟩ | ⟨b, o, h4, h5, h6⟩
  · subst h3; cases hj
  · exact ⟨b, o, h4, h5, h6 j hj⟩
theorem NdC.rdS {S : Nat → Prop} {w : World} {k : Int} {t : L8} {ks : List L8} {ds : List Nd} {c0 c1 c2 c3 : Value} (h : NdC S w (.mk k t ks ds) c0 c1 c2 c3) : RdS S w c2 ks := by
  rw [NdC] at h; exact h.2.2.1
theorem str_enc (s : ByteArray) : Lib.strCells s = s.data.toList.map encB := rfl
theorem wtx_write (t : L8) : writeL t true = wtx t := rfl
@[reducible] def Cells4 (g : Nat) (a b c d : Value) (w : World) : Prop :=
  g < w.heap.size ∧ w.cell? ⟨g, 0, none⟩ = some a ∧ w.cell? ⟨g, 1, none⟩ = some b ∧ w.cell? ⟨g, 2, none⟩ = some c ∧ w.cell? ⟨g, 3, none⟩ = some d
theorem keep4_alloc {g : Nat} {a b c d : Value} {w : World} {o : Obj} (h : Cells4 g a b c d w) : Cells4 g a b c d (w.alloc o) :=
  ⟨by simp; have := h.1; omega, cells_alloc h.2.1, cells_alloc h.2.2.1, cells_alloc h.2.2.2.1, cells_alloc h.2.2.2.2⟩
theorem keep4_grown {g : Nat} {a b c d : Value} {w w' : World} {row : Option Nat} (hg : w.grownBy w' row) (hn : row ≠ some g) (h : Cells4 g a b c d w) : Cells4 g a b c d w' :=
  ⟨Nat.lt_of_lt_of_le h.1 hg.size, cell_grown h.2.1 hg hn, cell_grown h.2.2.1 hg hn, cell_grown h.2.2.2.1 hg hn, cell_grown h.2.2.2.2 hg hn⟩
end Go.Proofs.YtemndagaicamiaaGreatDoor
