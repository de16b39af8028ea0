/- NodeEach's closure: what it answers, and what it turns. -/
import Derived.Test.YtgingebdoppdbaaRefTexts
namespace Go.Proofs.Ytgingebdoppdbaa
open Go.RowKit Go.Sort
open Nw N8 Go.ChangeShapes Go.WideShapes
set_option linter.unusedVariables false
/-- What the closure stands on: its counter, the list, the two strings. -/
def CS (g gl gb gm : Nat) (lv : Value) (L : List L8) (bad more : ByteArray) (W : World) (c : Nat) : Prop :=
  W.heap[g]? = some (.cells #[.int .i64 (c : Int)] 3 (0, 0)) ∧ W.cell? ⟨gl, 0, none⟩ = some lv ∧ Rd W lv L ∧ W.cell? ⟨gb, 0, none⟩ = some (.string bad) ∧ W.cell? ⟨gm, 0, none⟩ = some (.string more) ∧
    gl ≠ g ∧ gb ≠ g ∧ gm ≠ g ∧ lv.ownBlock ≠ some g
section
variable {g gl gb gm : Nat} {lv : Value} {L : List L8} {bad more : ByteArray} {W W' : World} {c c' : Nat}
theorem CS.go (h : CS g gl gb gm lv L bad more W c) (hx : W.grownBy W' (some g)) (hc : W'.heap[g]? = some (.cells #[.int .i64 (c' : Int)] 3 (0, 0))) : CS g gl gb gm lv L bad more W' c' := by
  obtain ⟨h1, h2, h3, h4, h5, h6, h7, h8, h9⟩ := h
  exact ⟨hc, cell_grown h2 hx (fun e => h6 (by injection e with e; exact e.symm)), rd_grown h3 hx (fun b hb e => h9 (by rw [hb, ← e])), cell_grown h4 hx (fun e => h7 (by injection e with e; exact e.symm)), cell_grown h5 hx (fun e => h8 (by injection e with e; exact e.symm)), h6, h7, h8, h9⟩
theorem CS.below (h : CS g gl gb gm lv L bad more W c) (hb : Below W.heap.size W W') : CS g gl gb gm lv L bad more W' c := by
  have hlt : g < W.heap.size := by
    rcases Nat.lt_or_ge g W.heap.size with h1 | h1
    · exact h1
    · have := h.1; rw [Array.getElem?_eq_none h1] at this; cases this
  refine h.go ⟨hb.os, hb.tape, hb.output, hb.size, fun k hk _ => hb.block k hk⟩ ((hb.block g hlt).trans h.1)
theorem CS.lt (h : CS g gl gb gm lv L bad more W c) : g < W.heap.size := by
  rcases Nat.lt_or_ge g W.heap.size with h1 | h1
  · exact h1
  · have := h.1; rw [Array.getElem?_eq_none h1] at this; cases this
end
theorem set_grown (W : World) (g : Nat) (v : Value) : W.grownBy (W.setCell ⟨g, 0, none⟩ v) (some g) :=
  ⟨rfl, rfl, rfl, by simp, fun k _ hk => set_oth _ _ _ _ fun e => hk (by rw [e])⟩
theorem str_beq_of' {x y : ByteArray} (h : x.data.toList = y.data.toList) : (x.toList == y.toList) = true := by rw [ByteArray.toList_eq, ByteArray.toList_eq, h]; exact beq_self_eq_true _
theorem str_beq_no' {x y : ByteArray} (h : x.data.toList ≠ y.data.toList) : (x.toList == y.toList) = false := by rw [ByteArray.toList_eq, ByteArray.toList_eq]; exact beq_eq_false_iff_ne.2 h
set_option maxRecDepth 100000 in
set_option maxHeartbeats 4000000 in
theorem closure_any (g gl gb gm : Nat) (lv : Value) (L : List L8) (bad more T : ByteArray) (W : World) (c : Nat) (h : CS g gl gb gm lv L bad more W c) (hc : c < L.length) (hL : L[c]'hc = T.data.toList) (hlen : L.length ≤ 100000) (hT : T.size ≤ 200) (hm : more.size ≤ 200) (r : Bool) (hr : decide (T.data.toList = bad.data.toList) = r) :
    Calls Try.prog 26 #[.string T, .pointer (some ⟨g, 0, none⟩), .pointer (some ⟨gl, 0, none⟩), .pointer (some ⟨gb, 0, none⟩), .pointer (some ⟨gm, 0, none⟩)] W fun e W' =>
      e = .returned (.tuple #[.string (if r then T else T ++ more), .int .i64 (if r then 4 else 0)]) ∧ CS g gl gb gm lv L bad more W' (c + 1) ∧ W.grownBy W' (some g) := by
  have hset := set_grown W g (.int .i64 ((c : Int) + 1))
  have HC : Hid (CS g gl gb gm lv L bad more (W.setCell ⟨g, 0, none⟩ (.int .i64 ((c : Int) + 1))) (c + 1)) := Lib.hid (h.go hset (by
    have := Lib.heap_setCell_same (i := 0) h.1 (.int .i64 ((c : Int) + 1))
    rw [this]
    show some (Obj.cells #[Value.int .i64 ((c : Int) + 1)] 3 (0, 0)) = _
    rw [show ((c : Int) + 1) = ((c + 1 : Nat) : Int) by omega]))
  have HG := Lib.hid hset
  obtain ⟨a, cap, rfl, hcap, hcm⟩ := rd_slice h.2.2.1
  obtain ⟨b, o, rfl, hb, y0⟩ := rd_at HC.out.2.2.1 c hc
  rw [hL, ba_of] at y0
  have k0 : W.cell? ⟨g, 0, none⟩ = some (.int .i64 (c : Int)) := cell_of_row W g 0 _ 3 (0, 0) h.1
  have kf : W.frozen? ⟨g, 0, none⟩ = false := frozen_of_row W g 0 _ 3 h.1
  have k1 : (W.setCell ⟨g, 0, none⟩ (.int .i64 ((c : Int) + 1))).cell? ⟨g, 0, none⟩ = some (.int .i64 ((c : Int) + 1)) := by
    have := cell_of_row _ g 0 _ 3 (0, 0) HC.out.1
    rw [show ((c + 1 : Nat) : Int) = (c : Int) + 1 by omega] at this
    exact this
  have k2 := HC.out.2.1
  have k3 := HC.out.2.2.2.1
  have k4 := HC.out.2.2.2.2.1
  have hcz : (c : Int) < (L.length : Int) := by omega
  have hgt : ¬ (L.length : Int) < (c : Int) + 1 := by omega
  have hdd : decide ((L.length : Int) < (c : Int) + 1) = false := decide_eq_false hgt
  have w1 : IntKind.i64.wrap ((c : Int) + 1) = (c : Int) + 1 := IntWalk.i64_in _ (by omega)
  have w2 : IntKind.i64.wrap ((c : Int) + 1 - 1) = (c : Int) := by rw [Int.add_sub_cancel]; exact IntWalk.i64_in _ (by omega)
  have e1 : (c : Int) + 1 - 1 = (c : Int) := by omega
  have q0 : (T.toList != T.toList) = false := by simp
  have hlen2 : L.length ≤ 9223372036854775807 := by omega
  clear h hset hL
  generalize L.length = n at *
  cases r with
  | true =>
    have q1 : (T.toList == bad.toList) = true := str_beq_of' (of_decide_eq_true hr)
    clear hr
    go_enter Try.func26, Try.ntmps26
    go_wp2
    refine bodyPost_ret (v := .tuple #[.string T, .int .i64 4]) (by simp [results, Try.results26, go_sem]) rfl ⟨rfl, HC.out, HG.out⟩
  | false =>
    have q1 : (T.toList == bad.toList) = false := str_beq_no' (of_decide_eq_false hr)
    clear hr
    go_enter Try.func26, Try.ntmps26
    go_wp2
    refine bodyPost_ret (v := .tuple #[.string (T ++ more), .int .i64 0]) (by simp [results, Try.results26, go_sem]) rfl ⟨rfl, HC.out, HG.out⟩
end Go.Proofs.Ytgingebdoppdbaa
