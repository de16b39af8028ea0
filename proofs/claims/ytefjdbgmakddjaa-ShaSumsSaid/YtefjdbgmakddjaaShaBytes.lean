/- A slice of bytes of the call's own, that may have come of a text: append of one byte to it, and its text. -/
import Derived.Test.YtefjdbgmakddjaaShaHex
import Derived.Laws.IdiomStrings
import Derived.ArgAppend
namespace Go.Proofs.Ytefjdbgmakddjaa
open Go.RowKit
open Sh
set_option linter.unusedVariables false
/-- The slice v holds the bytes of l, in a block of the call's own. -/
def OB (w : World) (base : Nat) (v : Value) (l : List UInt8) : Prop :=
  ∃ g cap cur fr, v = .slice (some ⟨g, 0, none⟩) l.length cap ∧ base ≤ g ∧ w.heap[g]? = some (.cells cur 5 fr) ∧ l.length ≤ cap ∧ cap ≤ maxLen ∧ cur.size = cap ∧
    (∀ j, j < cap → w.frozen? ⟨g, j, none⟩ = false) ∧ ∀ j (h : j < l.length), cur[j]? = some (encB l[j])
theorem OB.block {w w' : World} {base : Nat} {v : Value} {l : List UInt8} (h : OB w base v l) (hb : Below w.heap.size w w') : OB w' base v l := by
  obtain ⟨g, cap, cur, fr, h1, h2, h3, h4, h5, h6, h7, h8⟩ := h
  exact ⟨g, cap, cur, fr, h1, h2, row_below h3 hb (row_lt h3), h4, h5, h6, fun j hj => (hb.frozen (p := ⟨g, j, none⟩) (row_lt h3)).trans (h7 j hj), h8⟩
theorem cell_fr {w : World} {g j : Nat} {cs : Array Value} {t : TypeId} {fr : Nat × Nat} (hg : w.heap[g]? = some (.cells cs t fr)) : w.cell? ⟨g, j, none⟩ = cs[j]? := cell_of_row w g j cs t fr hg
theorem OB.read {w : World} {base : Nat} {v : Value} {l : List UInt8} (h : OB w base v l) :
    ∃ g cap, v = .slice (some ⟨g, 0, none⟩) l.length cap ∧ (convert 46 9 (.slice (some ⟨g, 0, none⟩) l.length cap)).run Try.prog w = .ok (.string ⟨l.toArray⟩) w := by
  obtain ⟨g, cap, cur, fr, rfl, h2, h3, h4, h5, h6, h7, h8⟩ := h
  refine ⟨g, cap, rfl, conv_read (fun i hi => ?_) rfl⟩
  rw [cell_fr h3]; exact h8 i hi
theorem setCell_row {w : World} {g i : Nat} {cs : Array Value} {t : TypeId} {fr : Nat × Nat} (v : Value) (hg : w.heap[g]? = some (.cells cs t fr)) :
    (w.setCell ⟨g, i, none⟩ v).heap[g]? = some (.cells (cs.setIfInBounds i v) t fr) := by
  rw [setCell_eq_setRow w g i cs t fr v hg]
  exact setRow_heap w g cs _ t _ hg
/-- append of one byte. -/
theorem run_append_ob {w : World} {base : Nat} {v : Value} {l : List UInt8} (h : OB w base v l) (hb : base ≤ w.heap.size) (i0 : TypeInfo) (hi : Try.prog.info? 5 = some i0) (hz0 : i0.zero = some (.int .u8 0)) (hz1 : i0.size = 1) (hz2 : i0.bytes = 1)
    (ad : Addr) (c : Nat) (x : UInt8) (hnew : w.cell? ad = some (encB x)) (hbig : l.length < 140737488355328) (ty : TypeId) :
    ∃ v' w', (Builtin.append_ #[46, 46] ty #[v, .slice (some ad) 1 c]).run Try.prog w = .ok v' w' ∧ OB w' base v' (l ++ [x]) ∧ Below base w w' := by
  obtain ⟨g, cap, cur, fr, rfl, h2, h3, h4, h5, h6, h7, h8⟩ := h
  have hnews : ∀ j u, [encB x][j]? = some u → w.cell? (ad.add j) = some u := by
    intro j u hj
    match j, hj with
    | 0, hj =>
      simp at hj; subst hj
      have hadd : ad.add 0 = ad := by obtain ⟨b, o, sp⟩ := ad; unfold Addr.add; split <;> simp_all
      rw [hadd]; exact hnew
  by_cases hroom : l.length + 1 ≤ cap
  · have hr := run_append_room_cells (P := Try.prog) w 46 ty 5 i0 Try.underlying46 hi g 0 l.length cap ad 1 c [encB x] (by rw [hz1]; rfl) hnews (by intro u hu; simp at hu; subst hu; rfl) hroom
      (by intro j hj; simp at hj; subst hj; rw [hz1, cell_fr h3]; simp; omega)
      (by intro j hj; simp at hj; subst hj; rw [hz1]; simp; exact h7 _ (by omega))
    refine ⟨_, _, hr, ⟨g, cap, cur.setIfInBounds l.length (encB x), fr, by simp, h2, ?_, by simpa using hroom, h5, by simpa using h6, ?_, ?_⟩, ?_⟩
    · rw [hz1, Nat.zero_add, Nat.mul_one]
      exact setCell_row (encB x) h3
    · intro j hj
      rw [World.frozen?_setCells]; exact h7 j hj
    · intro j hj
      rw [Array.getElem?_setIfInBounds]
      by_cases e : l.length = j
      · subst e; rw [if_pos rfl, if_pos (by omega)]; simp
      · have hj2 : j < l.length := by simp at hj; omega
        rw [if_neg e, List.getElem_append_left hj2]; exact h8 j hj2
    · rw [hz1, Nat.zero_add, Nat.mul_one]
      exact (Below.refl _ w).setCell h2 _
  · have hcap : cap = l.length := by omega
    have holds : ∀ j u, (l.map encB)[j]? = some u → w.cell? ((⟨g, 0, none⟩ : Addr).add j) = some u := by
      intro j u hj
      have hadd : (⟨g, 0, none⟩ : Addr).add j = ⟨g, j, none⟩ := by unfold Addr.add; split <;> simp_all
      rw [List.getElem?_map] at hj
      cases hx : l[j]? with
      | none => rw [hx] at hj; cases hj
      | some y =>
        rw [hx] at hj
        obtain ⟨hjl, rfl⟩ := List.getElem?_eq_some_iff.1 hx
        rw [hadd, cell_fr h3, h8 j hjl]; simpa using hj
    have hr := run_append_grow (P := Try.prog) w 46 ty 5 i0 _ Try.underlying46 hi hz0 ⟨g, 0, none⟩ l.length cap (l.map encB) (by rw [hz1]; simp) holds ad 1 c [encB x] (by rw [hz1]; rfl) hnews (by omega) (by omega)
      (growslice_fits (by omega) (by rw [hz2]; omega))
    have hG := grownCap_ge w (l.length + 1) cap 5
    have hGm := grownCap_le_maxLen w (l.length + 1) cap 5 (by unfold maxLen; omega)
    refine ⟨_, _, hr, ⟨w.heap.size, _, _, (0, 0), by simp, hb, row_new w.drew _, by simpa using hG, hGm, ?_, ?_, ?_⟩, (Below.refl _ w).drew.alloc hb _⟩
    · simp [size_zeroCells, Value.cells]; omega
    · intro j _
      exact frozen_of_row _ _ j _ _ (row_new w.drew _)
    · intro j hj
      have hj1 : j < l.length + 1 := by simpa using hj
      rw [Array.getElem?_append_left (by simp; omega)]
      rw [← List.map_singleton, List.append_toArray, ← List.map_append, List.getElem?_toArray, List.getElem?_map, List.getElem?_eq_getElem hj]
      rfl
theorem wpList_append_ob {w : World} {ops : Array Oper} {rest : List Oper} {o : Oper} {a : Act} {Q : Exit → Act → World → Prop} (hgd : o.guard = none) (s x : Operand)
    (ho : o.op = .call { callee := .builtin .append, args := #[s, x], argTypes := #[46, 46] })
    (base : Nat) (i0 : TypeInfo) (hi : Try.prog.info? 5 = some i0) (hz0 : i0.zero = some (.int .u8 0)) (hz1 : i0.size = 1) (hz2 : i0.bytes = 1)
    (v : Value) (l : List UInt8) (hs : a.eval s = v) (h : OB w base v l) (ad : Addr) (c : Nat) (y : UInt8) (hx : a.eval x = .slice (some ad) 1 c) (hnew : w.cell? ad = some (encB y)) (hbig : l.length < 140737488355328) (hb : base ≤ w.heap.size)
    (hK : ∀ v' w', OB w' base v' (l ++ [y]) → Below base w w' → wpList Try.prog ops Q rest (a.put o.dst v') w') : wpList Try.prog ops Q (o :: rest) a w := by
  refine wpList_plain hgd fun K hK' => ?_
  obtain ⟨v', w', hr, h2, h3⟩ := run_append_ob h hb i0 hi hz0 hz1 hz2 ad c y hnew hbig o.type
  unfold Oper.wp execOp
  simp only [ho, resolve, invoke, builtin, Sem.run_bind, Sem.run_pure, Result.andThen_ok, List.map_toArray, List.map_cons, List.map_nil, hs, hx, hr]
  exact hK' _ _ (hK v' w' h2 h3)
theorem new_cell (w : World) (x : Value) (t : TypeId) : (w.alloc (.cells #[x] t)).cell? ⟨w.heap.size, 0, none⟩ = some x := by
  rw [cell_of_row _ _ 0 _ t (0, 0) (row_new w _)]; rfl
theorem OB.alloc {w : World} {base : Nat} {v : Value} {l : List UInt8} (h : OB w base v l) (o : Obj) : OB (w.alloc o) base v l := h.block ((Below.refl _ w).alloc (Nat.le_refl _) o)
/-- The bytes of a text in a slice of its own. -/
theorem ob_of_string (w : World) (s : ByteArray) (hs : s.size ≤ 4000) :
    ∃ v w', (convert 9 46 (.string s)).run Try.prog w = .ok v w' ∧ OB w' w.heap.size v s.data.toList ∧ Below w.heap.size w w' := by
  have hr := run_bytes_of_string (P := Try.prog) w 9 46 5 s Try.underlying9 Try.underlying46 Try.underlying5
  have hG := grownCap_ge w s.size 0 5
  have hGm := grownCap_le_maxLen w s.size 0 5 (by unfold maxLen; omega)
  have hsz : (bytesRow s (grownCap w s.size 0 5)).size = grownCap w s.size 0 5 := by
    unfold bytesRow; simp
    show s.size + _ = _
    omega
  have hl : s.data.toList.length = s.size := rfl
  refine ⟨_, _, hr, ⟨w.heap.size, _, _, _, by rw [hl], Nat.le_refl _, row_new w.drew _, by rw [hl]; exact hG, hGm, hsz, ?_, ?_⟩, (Below.refl _ w).drew.alloc (Nat.le_refl _) _⟩
  · intro j hj
    show World.frozen? _ _ = _
    have hrow : (w.drew.alloc (.cells (bytesRow s (grownCap w s.size 0 5)) 5 ((bytesRow s (grownCap w s.size 0 5)).size, (bytesRow s (grownCap w s.size 0 5)).size + 1))).heap[w.heap.size]? = some _ := row_new w.drew _
    simp only [World.frozen?]
    rw [hrow, hsz]
    simp
    omega
  · intro j hj
    unfold bytesRow
    have hj2 : j < s.data.size := hj
    rw [Array.getElem?_append_left (by simpa using hj2), Array.getElem?_map, Array.getElem?_eq_getElem hj2]
    rfl
end Go.Proofs.Ytefjdbgmakddjaa
