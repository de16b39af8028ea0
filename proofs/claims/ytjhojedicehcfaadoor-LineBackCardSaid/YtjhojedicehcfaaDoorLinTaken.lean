/- The contract of the statements' taken. -/
import Derived.Test.YtjhojedicehcfaaDoorLinSplit
import Derived.Test.YtjhojedicehcfaaDoorRefDbl
import Derived.Deep.RegionHeld3
namespace Go.Proofs.YtjhojedicehcfaaDoor
open Go.RowKit Go.Sort
open Q6
set_option linter.unusedVariables false
/-- Three cells of a block that is there. -/
@[reducible] def Cells3 (g k : Nat) (a b : Int) (t : ByteArray) (w : World) : Prop :=
  g < w.heap.size ∧ w.cell? ⟨g, k * 3, none⟩ = some (.int .i64 a) ∧ w.cell? ⟨g, k * 3 + 1, none⟩ = some (.int .i64 b) ∧ w.cell? ⟨g, k * 3 + 2, none⟩ = some (.string t)
theorem keepC_alloc {g k : Nat} {a b : Int} {t : ByteArray} {w : World} {o : Obj} (h : Cells3 g k a b t w) : Cells3 g k a b t (w.alloc o) :=
  ⟨by simp; have := h.1; omega, (World.cell?_alloc_lt w o _ h.1).trans h.2.1, (World.cell?_alloc_lt w o _ h.1).trans h.2.2.1, (World.cell?_alloc_lt w o _ h.1).trans h.2.2.2⟩
theorem keepC_grown {g k : Nat} {a b : Int} {t : ByteArray} {w w' : World} {row : Option Nat} (hg : w.grownBy w' row) (hn : row ≠ some g) (h : Cells3 g k a b t w) : Cells3 g k a b t w' :=
  ⟨Nat.lt_of_lt_of_le h.1 hg.size, (World.cell?_of_block (hg.block g h.1 (fun e => hn e.symm))).trans h.2.1, (World.cell?_of_block (hg.block g h.1 (fun e => hn e.symm))).trans h.2.2.1, (World.cell?_of_block (hg.block g h.1 (fun e => hn e.symm))).trans h.2.2.2⟩
/-- A slice handed back that reads as lines. -/
def GivesR (ls : List Ln) (w : World) (e : Ending) (w' : World) : Prop := ∃ v, e = .returned v ∧ LR w' v ls ∧ Below w.heap.size w w'
theorem take_next {ls : List Ln} {k : Nat} (h : k < ls.length) : ls.take (k + 1) = ls.take k ++ [ls[k]'h] := by rw [List.take_succ_eq_append_getElem h]
theorem own_nil3' (w : World) (e : TypeId) : (w.alloc (.cells #[] e)).ownsRow w.heap.size e 3 (.slice (some ⟨w.heap.size, 0, none⟩) 0 0) 0 [] := by
  refine ⟨rfl, .inr ⟨w.heap.size, 0, #[], rfl, Nat.le_refl _, ?_, Nat.zero_le _, Nat.zero_le _, rfl, rfl⟩⟩
  show (w.heap.push _)[w.heap.size]? = _
  simp
set_option maxRecDepth 100000 in
set_option maxHeartbeats 4000000 in
theorem taken_any (v : Value) (ls : List Ln) (w : World) (hv : LR w v ls) (hl : ls.length ≤ 100000) :
    Calls Tryd.prog 10 #[v] w (GivesR ls w) := by
  obtain ⟨i0, hi, hz0, hz1, hz2⟩ := infoR
  obtain ⟨A, cap, rfl, hcap, hcell⟩ := hv
  have HCELL := Lib.hid hcell
  clear hcell
  obtain ⟨n, hn⟩ : ∃ n, ls.length = n := ⟨_, rfl⟩
  have HN := Lib.hid hn
  rw [hn] at hcap hl ⊢
  clear hn
  have HON := Lib.hid (own_nil3' w 36)
  go_enter Tryd.func10, Tryd.ntmps10
  go_wp2
  go_loopw [3, 4] (fun sv si wr => ∃ k : Nat, k ≤ n ∧ si = .int .i64 (k : Int) ∧ wr.ownsRow w.heap.size 36 3 sv k (cellsN (ls.take k)) ∧ Hid (Below w.heap.size w wr)) (fun _ si _ => n - (intOf si).toNat)
  case atStart => exact ⟨0, Nat.zero_le _, rfl, HON.out, Lib.hid ((Below.refl _ _).alloc (Nat.le_refl _) _)⟩
  case round =>
    clear HON
    obtain ⟨k, hk, rfl, hown, HB⟩ := hrel
    by_cases hlt : k < n
    · have hkl : k < ls.length := by rw [HN.out]; exact hlt
      have hkz : (k : Int) < (n : Int) := by omega
      obtain ⟨g, rfl, hg, c0, c1, c2⟩ := HCELL.out k hkl
      obtain ⟨a, ha⟩ : ∃ a : Int, ((ls[k]'hkl).no : Int) = a := ⟨_, rfl⟩
      obtain ⟨b, hb⟩ : ∃ b : Int, ((ls[k]'hkl).ind : Int) = b := ⟨_, rfl⟩
      obtain ⟨t, ht⟩ : ∃ t : ByteArray, (⟨(ls[k]'hkl).text.toArray⟩ : ByteArray) = t := ⟨_, rfl⟩
      rw [ha] at c0
      rw [hb] at c1
      rw [ht] at c2
      have HC : Cells3 g k a b t wr := ⟨Nat.lt_of_lt_of_le hg HB.out.size, (HB.out.cell (p := ⟨g, k * 3, none⟩) hg).trans c0, (HB.out.cell (p := ⟨g, k * 3 + 1, none⟩) hg).trans c1, (HB.out.cell (p := ⟨g, k * 3 + 2, none⟩) hg).trans c2⟩
      have HX : Hid (cellsN (ls.take (k + 1)) = cellsN (ls.take k) ++ [.int .i64 a, .int .i64 b, .string t]) := Lib.hid (by
        rw [take_next hkl, cellsN_snoc]
        unfold encN
        rw [ha, hb, ht])
      have hne : ∀ q, u3.ownBlock = some q → w.heap.size ≤ q := fun q hq => (hown.lt q hq).1
      have hneg : u3.ownBlock ≠ some g := fun e => by have := hne g e; omega
      have HNE := Lib.hid hne
      obtain ⟨YS, hYS⟩ : ∃ YS, YS = cellsN (ls.take k) := ⟨_, rfl⟩
      rw [← hYS] at hown
      have HYS := Lib.hid hYS
      have hHb := HB.out.size
      clear hYS ha hb ht c0 c1 c2 hne
      go_wp2_with fail
      obtain ⟨d0, d1, d2, d3⟩ := HC
      have hS1 : Cells3 g k a b t wr.drew := ⟨d0, d1, d2, d3⟩
      go_region_held3 (fun w' => g < w'.heap.size ∧ w'.cell? ⟨g, k * 3, none⟩ = some (.int .i64 a) ∧ w'.cell? ⟨g, k * 3 + 1, none⟩ = some (.int .i64 b) ∧ w'.cell? ⟨g, k * 3 + 2, none⟩ = some (.string t)) (first | exact hS1 | assumption | exact keepC_alloc (by assumption) | exact keepC_grown (by assumption) hneg (by assumption))
        (first | (refine step_append_own rfl _ _ 27 rfl w.heap.size 36 i0 _ 3 32 Tryd.underlying27 hi hz0 hz1 hz2 rfl (by decide) _ _ _ rfl ((owns_drew hown).alloc _) ⟨wr.heap.size, 0, none⟩ 1 1 [.int .i64 a, .int .i64 b, .string t] rfl rfl (by first | exact cells_new wr _ _ | exact cells_new wr.drew _ _) (three_one _ _ _) (by unfold maxLen; omega) (by omega) (by simp; omega) ?_; intro v' w2 hown' hgrow hnil))
      all_goals
        have HW2 := Lib.hid hown'
        have HG2 := Lib.hid (show World.grownBy _ w2 u3.ownBlock from hgrow)
        clear hown' hgrow hown hnil
        go_wp2
        go_roundw
        case measure => simp [intOf]; omega
        case rel => exact ⟨k + 1, by omega, by go_num, by rw [HX.out, ← HYS.out]; exact HW2.out, Lib.hid (((HB.out.alloc HB.out.size _).drew).grown HG2.out (by simp; omega) HNE.out)⟩
    · obtain rfl : k = n := by omega
      have HO := Lib.hid hown
      rw [List.take_of_length_le (by rw [HN.out]; exact Nat.le_refl _)] at HO
      clear hown
      go_wp2
      go_ret
      exact ⟨_, rfl, lr_of_owns HO.out, HB.out⟩
end Go.Proofs.YtjhojedicehcfaaDoor
