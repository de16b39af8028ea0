/- Lines in memory: a slice that reads as lines; the call's own row of lines. -/
import Derived.Test.YtjhojedicehcfaaDoorLinParse
namespace Go.Proofs.YtjhojedicehcfaaDoor
open Go.RowKit Go.Sort
open Q6
set_option linter.unusedVariables false
def encN (x : Ln) : List Value := [.int .i64 (x.no : Int), .int .i64 (x.ind : Int), .string ⟨x.text.toArray⟩]
def cellsN (ls : List Ln) : List Value := (ls.map encN).flatten
theorem cellsN_len (ls : List Ln) : (cellsN ls).length = ls.length * 3 := by
  induction ls with
  | nil => rfl
  | cons x ls ih =>
    show (encN x ++ cellsN ls).length = _
    rw [List.length_append, ih, List.length_cons]
    show 3 + _ = _
    omega
theorem cellsN_snoc (ls : List Ln) (x : Ln) : cellsN (ls ++ [x]) = cellsN ls ++ encN x := by unfold cellsN; simp
theorem cellsN_at (ls : List Ln) (k : Nat) (h : k < ls.length) : (cellsN ls)[k * 3]? = some (.int .i64 ((ls[k]'h).no : Int)) ∧ (cellsN ls)[k * 3 + 1]? = some (.int .i64 ((ls[k]'h).ind : Int)) ∧ (cellsN ls)[k * 3 + 2]? = some (.string ⟨(ls[k]'h).text.toArray⟩) := by
  induction ls generalizing k with
  | nil => cases h
  | cons x ls ih =>
    have e : cellsN (x :: ls) = .int .i64 (x.no : Int) :: .int .i64 (x.ind : Int) :: .string ⟨x.text.toArray⟩ :: cellsN ls := rfl
    rw [e]
    cases k with
    | zero => exact ⟨rfl, rfl, rfl⟩
    | succ k =>
      have := ih k (Nat.lt_of_succ_lt_succ h)
      rw [show (k + 1) * 3 = k * 3 + 1 + 1 + 1 by omega, show k * 3 + 1 + 1 + 1 + 1 = k * 3 + 1 + 1 + 1 + 1 by rfl]
      refine ⟨?_, ?_, ?_⟩
      · rw [List.getElem?_cons_succ, List.getElem?_cons_succ, List.getElem?_cons_succ]; exact this.1
      · rw [List.getElem?_cons_succ, List.getElem?_cons_succ, List.getElem?_cons_succ]; exact this.2.1
      · rw [show k * 3 + 1 + 1 + 1 + 2 = k * 3 + 2 + 1 + 1 + 1 by omega, List.getElem?_cons_succ, List.getElem?_cons_succ, List.getElem?_cons_succ]; exact this.2.2
theorem three_one (a b : Int) (t : ByteArray) : ∀ u ∈ [Value.int .i64 a, Value.int .i64 b, Value.string t], u.oneCell' = true := by
  intro u hu
  simp only [List.mem_cons, List.not_mem_nil, or_false] at hu
  rcases hu with rfl | rfl | rfl <;> rfl
theorem infoL0 : (Tryd.prog.info? 34).map (fun i => (i.zero, i.size, i.bytes)) = some (some (.agg #[.int .i64 0, .int .i64 0, .string ⟨#[]⟩]), 3, 32) := by kernel_rfl
theorem infoR0 : (Tryd.prog.info? 36).map (fun i => (i.zero, i.size, i.bytes)) = some (some (.agg #[.int .i64 0, .int .i64 0, .string ⟨#[]⟩]), 3, 32) := by kernel_rfl
theorem infoL : ∃ i, Tryd.prog.info? 34 = some i ∧ i.zero = some (.agg #[.int .i64 0, .int .i64 0, .string ⟨#[]⟩]) ∧ i.size = 3 ∧ i.bytes = 32 := by
  have h := infoL0
  cases hi : Tryd.prog.info? 34 with
  | none => rw [hi] at h; cases h
  | some i =>
    rw [hi] at h
    simp only [Option.map_some, Option.some.injEq, Prod.mk.injEq] at h
    exact ⟨i, rfl, h.1, h.2.1, h.2.2⟩
theorem infoR : ∃ i, Tryd.prog.info? 36 = some i ∧ i.zero = some (.agg #[.int .i64 0, .int .i64 0, .string ⟨#[]⟩]) ∧ i.size = 3 ∧ i.bytes = 32 := by
  have h := infoR0
  cases hi : Tryd.prog.info? 36 with
  | none => rw [hi] at h; cases h
  | some i =>
    rw [hi] at h
    simp only [Option.map_some, Option.some.injEq, Prod.mk.injEq] at h
    exact ⟨i, rfl, h.1, h.2.1, h.2.2⟩
theorem owns_below {w w' : World} {base n size : Nat} {e : TypeId} {v : Value} {xs : List Value} (h : w.ownsRow base e size v n xs) (hb : Below w.heap.size w w') : w'.ownsRow base e size v n xs := by
  refine ⟨h.1, ?_⟩
  rcases h.2 with h0 | ⟨g, cap, cur, h1, h2, h3, h4⟩
  · exact .inl h0
  · refine .inr ⟨g, cap, cur, h1, h2, (hb.block g ?_).trans h3, h4⟩
    rcases Nat.lt_or_ge g w.heap.size with hl | hl
    · exact hl
    · rw [Array.getElem?_eq_none hl] at h3; cases h3
theorem owns_lower {w : World} {base base' n size : Nat} {e : TypeId} {v : Value} {xs : List Value} (h : w.ownsRow base e size v n xs) (hb : base' ≤ base) : w.ownsRow base' e size v n xs := by
  refine ⟨h.1, ?_⟩
  rcases h.2 with h0 | ⟨g, cap, cur, h1, h2, h3⟩
  · exact .inl h0
  · exact .inr ⟨g, cap, cur, h1, Nat.le_trans hb h2, h3⟩
/-- A slice that reads as lines. -/
def LR (w : World) (v : Value) (ls : List Ln) : Prop :=
  ∃ (A : Option Addr) (cap : Nat), v = .slice A ls.length cap ∧ ls.length ≤ cap ∧ ∀ (k : Nat) (h : k < ls.length), ∃ g, A = some ⟨g, 0, none⟩ ∧ g < w.heap.size ∧
    w.cell? ⟨g, k * 3, none⟩ = some (.int .i64 ((ls[k]'h).no : Int)) ∧ w.cell? ⟨g, k * 3 + 1, none⟩ = some (.int .i64 ((ls[k]'h).ind : Int)) ∧ w.cell? ⟨g, k * 3 + 2, none⟩ = some (.string ⟨(ls[k]'h).text.toArray⟩)
theorem LR.below {w w' : World} {v : Value} {ls : List Ln} (h : LR w v ls) (hb : Below w.heap.size w w') : LR w' v ls := by
  obtain ⟨A, cap, hv, hc, hk⟩ := h
  refine ⟨A, cap, hv, hc, fun k hkl => ?_⟩
  obtain ⟨g, h1, h2, h3, h4, h5⟩ := hk k hkl
  refine ⟨g, h1, Nat.lt_of_lt_of_le h2 hb.size, ?_, ?_, ?_⟩
  · rw [← h3]; exact hb.cell (p := ⟨g, k * 3, none⟩) h2
  · rw [← h4]; exact hb.cell (p := ⟨g, k * 3 + 1, none⟩) h2
  · rw [← h5]; exact hb.cell (p := ⟨g, k * 3 + 2, none⟩) h2
theorem addr_add (g j : Nat) : (⟨g, 0, none⟩ : Addr).add j = ⟨g, j, none⟩ := by
  unfold Addr.add
  by_cases h : j = 0
  · subst h; rfl
  · simp [h]
theorem lr_of_owns {w : World} {base n : Nat} {e : TypeId} {v : Value} {ls : List Ln} (h : w.ownsRow base e 3 v n (cellsN ls)) : LR w v ls := by
  have hn : ls.length = n := by have := h.1; rw [cellsN_len] at this; omega
  have hlt := h.lt
  have hcells := @World.ownsRow.cells _ _ _ _ _ _ _ h
  rcases h.2 with ⟨hv, h0⟩ | ⟨g, cap, cur, hv, h1, h2, h3, h4⟩
  · refine ⟨none, 0, by rw [hv, hn, h0], by omega, fun k hk => by omega⟩
  · refine ⟨some ⟨g, 0, none⟩, cap, by rw [hv, hn], by omega, fun k hk => ⟨g, rfl, ?_, ?_⟩⟩
    · exact (hlt g (by rw [hv]; rfl)).2
    · obtain ⟨c1, c2, c3⟩ := cellsN_at ls k hk
      have f := hcells (g := g) (by rw [hv]; rfl)
      refine ⟨?_, ?_, ?_⟩
      · have := f _ _ c1; rw [addr_add] at this; exact this
      · have := f _ _ c2; rw [addr_add] at this; exact this
      · have := f _ _ c3; rw [addr_add] at this; exact this
theorem lr_nil (w : World) : LR w (.slice none 0 0) [] := ⟨none, 0, rfl, Nat.le_refl _, fun k h => absurd h (Nat.not_lt_zero _)⟩
/-- The rows' strings lie in w's next block. -/
def RowsIn (rows : List ByteArray) (w w' : World) : Prop := Below w.heap.size w w' ∧ w.heap.size + 1 ≤ w'.heap.size ∧ w'.heap[w.heap.size]? = some (.cells (rows.map Value.string).toArray 9 (0, 0))
theorem RowsIn.go {rows : List ByteArray} {w w1 w2 : World} (h : RowsIn rows w w1) (hb : Below w1.heap.size w1 w2) : RowsIn rows w w2 :=
  ⟨h.1.trans (hb.mono h.1.size), Nat.le_trans h.2.1 hb.size, (hb.block _ (Nat.lt_of_lt_of_le (Nat.lt_succ_self _) h.2.1)).trans h.2.2⟩
theorem RowsIn.grown {rows : List ByteArray} {w w1 w2 : World} {row : Option Nat} (h : RowsIn rows w w1) (hg : w1.grownBy w2 row) (hr : ∀ q, row = some q → w.heap.size + 1 ≤ q) : RowsIn rows w w2 :=
  ⟨h.1.grown hg h.1.size (fun q hq => by have := hr q hq; omega), Nat.le_trans h.2.1 hg.size, (hg.block _ (Nat.lt_of_lt_of_le (Nat.lt_succ_self _) h.2.1) (fun e => by have := hr _ e.symm; omega)).trans h.2.2⟩
theorem RowsIn.at_ {rows : List ByteArray} {w w1 : World} (h : RowsIn rows w w1) (k : Nat) (hk : k < rows.length) : w1.cell? ⟨w.heap.size, k, none⟩ = some (.string (rows[k]'hk)) := by
  rw [cell_of_row w1 w.heap.size k _ 9 (0, 0) h.2.2, List.getElem?_toArray, List.getElem?_map, List.getElem?_eq_getElem hk]; rfl
/-- The rows of a text, as strings.Split hands them back. -/
theorem split_rows (s : ByteArray) (w : World) (hw : SomeMax w) (hs : s.size ≤ 100000) : ∃ rows : List ByteArray, rows.map (·.data.toList) = rowsL s.data.toList ∧ 0 < rows.length ∧ rows.length ≤ s.size + 1 ∧
    Calls Tryd.prog 14 #[.string s, .string ⟨#[10]⟩] w fun e w' => e = .returned (.slice (some ⟨w.heap.size, 0, none⟩) rows.length rows.length) ∧ RowsIn rows w w' := by
  obtain ⟨m, hm⟩ := hw
  refine ⟨Lib.splitB ⟨#[10]⟩ 0 (Lib.countB s ⟨#[10]⟩) s, ?_, ?_, ?_, ?_⟩
  · rw [Lib.splitB_data]; exact rows_split _
  · rw [Lib.splitB_all ⟨#[10]⟩ (by decide) 0 _ s rfl]; exact Nat.succ_pos _
  · rw [Lib.splitB_all ⟨#[10]⟩ (by decide) 0 _ s rfl]
    have := Lib.countB_le ⟨#[10]⟩ (by decide) s.size s (Nat.le_refl _)
    omega
  · rw [Lib.splitB_all ⟨#[10]⟩ (by decide) 0 _ s rfl]
    refine (Tryd.strings_Split s ⟨#[10]⟩ m w (by omega) hm (by decide)).mono ?_
    rintro e w' ⟨rfl, rfl⟩
    exact ⟨rfl, (Below.refl _ _).alloc (Nat.le_refl _) _, by simp, row_new w _⟩
end Go.Proofs.YtjhojedicehcfaaDoor
