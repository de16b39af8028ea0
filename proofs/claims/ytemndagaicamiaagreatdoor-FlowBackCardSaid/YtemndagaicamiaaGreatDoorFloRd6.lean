/- The contract of the reader's begin. -/
import Derived.Test.YtemndagaicamiaaGreatDoorFloRd5
namespace Go.Proofs.YtemndagaicamiaaGreatDoor
open Go.RowKit Go.Sort
open Nw N8 Q6 F9 Go.ChangeShapes Go.WideShapes
set_option linter.unusedVariables false
section
variable {b0 g B m n cap lo : Nat} {w : World} {r : ByteArray} {q : Q4} {qs : List Q4} {f : Fr} {S : List Fr}
theorem RS.push_below {w0 w1 w2 : World} {gb : Nat} (h : RS b0 g B m n cap w r lo q qs f S) (hB : Below b0 w0 w) (hb : Below w.heap.size w w1) (hg : w1.grownBy w2 (some B)) (hgb : b0 ≤ gb) (a b c d v : Value) (i j : Nat) :
    Below b0 w0 (((((w2.setCell ⟨gb, i, none⟩ a).setCell ⟨gb, i + 1, none⟩ b).setCell ⟨gb, i + 2, none⟩ c).setCell ⟨gb, i + 3, none⟩ d).setCell ⟨g, j, none⟩ v) := by
  have hlt := h.lt
  have h0 := h.below_g
  have hs := hb.size
  have h2 : Below b0 w0 w2 := (hB.trans (hb.mono (by omega))).grown hg (by omega) fun k e => by injection e with e; omega
  exact ((((h2.setCell (p := ⟨gb, i, none⟩) hgb a).setCell (p := ⟨gb, i + 1, none⟩) hgb b).setCell (p := ⟨gb, i + 2, none⟩) hgb c).setCell (p := ⟨gb, i + 3, none⟩) hgb d).setCell (p := ⟨g, j, none⟩) h0 v
theorem begin_no (h : RS b0 g B m n cap w r lo q qs f S) (hs : r.size ≤ 1000000) (h1 : isC 91 ((r.data.toList.drop (blk r.data.toList)).headD 0) = false) (h2 : isC 123 ((r.data.toList.drop (blk r.data.toList)).headD 0) = false) (r' : ByteArray) (hr : r'.data.toList = r.data.toList.drop (blk r.data.toList)) :
    Calls Tryz.prog 26 #[.pointer (some ⟨g, 0, none⟩)] w fun e w' => e = .returned (.bool false) ∧ RS b0 g B m n cap w' r' lo q qs f S ∧ Below b0 w w' := by
  have HT := Lib.hid (take_rs h 91 (by decide) hs false h1 r' (by rw [if_neg Bool.false_ne_true]; exact hr))
  have hs' : r'.size ≤ 1000000 := by
    have e1 : r'.data.toList.length = r'.size := rfl
    have e2 : r.data.toList.length = r.size := rfl
    rw [hr, List.length_drop] at e1
    omega
  have hb0 : blk r'.data.toList = 0 := by rw [hr]; exact blk_idem _
  have HT2 := Lib.hid (fun W (hW : RS b0 g B m n cap W r' lo q qs f S) => take_rs hW 123 (by decide) hs' false (by rw [hb0, List.drop_zero, hr]; exact h2) r' (by rw [if_neg Bool.false_ne_true, hb0, List.drop_zero]))
  clear h hs h1 h2 hr hs' hb0
  go_enter Tryz.func26, Tryz.ntmps26
  go_wp2_with fail
  refine HT.out.mono ?_
  rintro e w1 ⟨rfl, hR, hB⟩
  have HB := Lib.hid hB
  have HX := Lib.hid (HT2.out _ hR)
  clear hR hB
  go_wp2_with fail
  refine HX.out.mono ?_
  rintro e w2 ⟨rfl, hR, hB⟩
  have HB2 := Lib.hid (HB.out.trans hB)
  have HR := Lib.hid hR
  clear hR hB
  go_wp2
  go_ret
  exact ⟨rfl, HR.out, HB2.out⟩
/-- The list grows by an empty collection. -/
def PushOf (b0 g B m n cap : Nat) (w W : World) (r : ByteArray) (lo : Nat) (q : Q4) (qs : List Q4) (f : Fr) (S : List Fr) (k : Int) : Prop :=
  ∃ B' cap' lo' q', RS b0 g B' n (n + 1) cap' W r lo' q' (q :: qs) ⟨k, [], []⟩ (f :: S) ∧ Below b0 w W
set_option maxRecDepth 100000 in
set_option maxHeartbeats 8000000 in
theorem begin_seq (h : RS b0 g B m n cap w r lo q qs f S) (hs : r.size ≤ 1000000) (hn : n ≤ 1000000) (h1 : isC 91 ((r.data.toList.drop (blk r.data.toList)).headD 0) = true) (r2 : ByteArray) (hr : r2.data.toList = r.data.toList.drop (blk r.data.toList + 1)) :
    Calls Tryz.prog 26 #[.pointer (some ⟨g, 0, none⟩)] w fun e w' => e = .returned (.bool true) ∧ PushOf b0 g B m n cap w w' r2 lo q qs f S 2 := by
  have HT := Lib.hid (take_rs h 91 (by decide) hs true h1 r2 (by rw [if_pos rfl]; exact hr))
  clear h hs h1 hr
  obtain ⟨j0, hj0, hy0, hy1, hy2⟩ := infoN
  go_enter Tryz.func26, Tryz.ntmps26
  go_wp2_with fail
  refine HT.out.mono ?_
  rintro e W1 ⟨rfl, hR, hB⟩
  have hbd := below_drew W1
  have HB := Lib.hid (hR.bb hB hbd)
  have HR := Lib.hid (hR.go hbd)
  clear hR hB hbd
  obtain ⟨⟨c0, c1⟩, f0, f1⟩ := HR.out.cells
  obtain ⟨XS, hXS⟩ : ∃ XS, flat4 (q :: qs).reverse = XS := ⟨_, rfl⟩
  have hown := HR.out.2.2.1
  have hnm := HR.out.nums
  have hXL : XS.length = n * 4 := by rw [← hXS, flat4_len, List.length_reverse, List.length_cons]; omega
  rw [hXS] at hown
  have HOWN := Lib.hid hown
  have HXS := Lib.hid hXS
  have HXL := Lib.hid hXL
  have hBg : B ≠ g := HR.out.apart
  have hnB : (Value.slice (some ⟨B, 0, none⟩) n cap).ownBlock ≠ some g := fun e => hBg (by injection e)
  have hglt : g < W1.heap.size := HR.out.lt.1
  have hb0l : b0 ≤ W1.heap.size := by have := HR.out.below_g; omega
  have wn : IntKind.i64.wrap (n : Int) = (n : Int) := IntWalk.i64_in _ (by omega)
  have ca1 : (W1.alloc (.cells #[.int .i64 0, .string ⟨#[]⟩, .slice none 0 0, .slice none 0 0] 25)).cell? ⟨g, 1, none⟩ = some (.slice (some ⟨B, 0, none⟩) n cap) := cells_alloc (w := W1) c1
  have ln : (n : Int) < (n : Int) + 1 := by omega
  have zn : (0 : Int) ≤ (n : Int) := by omega
  have HFIN := Lib.hid (fun (gb cb : Nat) (w4 : World) (hownN : w4.ownsRow b0 25 4 (.slice (some ⟨gb, 0, none⟩) (n + 1) cb) (n + 1) (XS ++ [.int .i64 0, .string ⟨#[]⟩, .slice none 0 0, .slice none 0 0])) (hgN : World.grownBy (W1.drew.alloc (.cells #[.int .i64 0, .string ⟨#[]⟩, .slice none 0 0, .slice none 0 0] 25)) w4 (Value.slice (some ⟨B, 0, none⟩) n cap).ownBlock) (hatN : (Value.slice (some ⟨B, 0, none⟩) n cap).ownBlock = some gb ∨ gb = (W1.drew.alloc (.cells #[.int .i64 0, .string ⟨#[]⟩, .slice none 0 0, .slice none 0 0] 25)).heap.size) =>
    have hb9 : Below W1.drew.heap.size W1.drew (W1.drew.alloc (.cells #[.int .i64 0, .string ⟨#[]⟩, .slice none 0 0, .slice none 0 0] 25)) := (Below.refl _ _).alloc (Nat.le_refl _) _
    have hk9 : gb = B ∨ gb = (W1.drew.alloc (.cells #[.int .i64 0, .string ⟨#[]⟩, .slice none 0 0, .slice none 0 0] 25)).heap.size := hatN.imp (fun e => by injection e with e; exact e.symm) fun e => e
    And.intro (HR.out.push (k := 2) hb9 hownN (by rw [HXS.out]) hgN hk9)
      (HR.out.push_below HB.out hb9 hgN (hownN.lt gb rfl).1 (.int .i64 2) (.string ⟨#[]⟩) (.slice none 0 0) (.slice none 0 0) (.slice (some ⟨gb, 0, none⟩) (n + 1) cb) (n * 4) 1))
  clear hown hXS hXL hnm
  go_upto_region 6 with fail
  go_region_law (first
    | (refine step_append_lies _ rfl (.tmp 13) (.tmp 17) 23 rfl b0 25 j0 _ 4 72 Tryz.underlying23 hj0 hy0 hy1 hy2 rfl (by decide) (.slice (some ⟨B, 0, none⟩) n cap) n XS rfl (HOWN.out.alloc _) _ 1 1 [.int .i64 0, .string ⟨#[]⟩, .slice none 0 0, .slice none 0 0] rfl rfl (news_blk #[.int .i64 0, .string ⟨#[]⟩, .slice none 0 0, .slice none 0 0] (alloc_at _ _)) zero_one (by omega) (by unfold maxLen; omega) (by omega) (by simp; omega) _ rfl ?_
       intro gb cb w4 hownN hgN hatN hltN
       obtain ⟨⟨y0, y1, y2, y3⟩, fy0, fy1, fy2, fy3⟩ := row_cells hownN rfl HXL.out
       have hz4 : w4.cell? ⟨g, 1, none⟩ = some (.slice (some ⟨B, 0, none⟩) n cap) := cell_grown (cells_alloc c1) hgN hnB
       have hf4 : w4.frozen? ⟨g, 1, none⟩ = false := frozen_grown (frozen_alloc f1 hglt) hgN (by simp; omega) hnB
       have gB : gb ≠ g := lies_ne hatN hnB (by simp; omega)
       have Bg : g ≠ gb := fun e => gB e.symm))
  all_goals
    have HK := Lib.hid (HFIN.out gb cb w4 hownN hgN hatN)
    clear hownN hgN hatN hltN
    go_wp2
    go_ret
    refine ⟨rfl, gb, cb, w4.heap.size, ⟨.int .i64 2, .string ⟨#[]⟩, .slice none 0 0, .slice none 0 0⟩, ?_, ?_⟩
    · first
        | with_reducible exact HK.out.1
        | (rw [set_comm4 _ Bg]; with_reducible exact HK.out.1)
    · first
        | with_reducible exact HK.out.2
        | (rw [set_comm4 _ Bg]; with_reducible exact HK.out.2)
set_option maxRecDepth 100000 in
set_option maxHeartbeats 8000000 in
theorem begin_map (h : RS b0 g B m n cap w r lo q qs f S) (hs : r.size ≤ 1000000) (hn : n ≤ 1000000) (h1 : isC 91 ((r.data.toList.drop (blk r.data.toList)).headD 0) = false) (h2 : isC 123 ((r.data.toList.drop (blk r.data.toList)).headD 0) = true) (r2 : ByteArray) (hr : r2.data.toList = r.data.toList.drop (blk r.data.toList + 1)) :
    Calls Tryz.prog 26 #[.pointer (some ⟨g, 0, none⟩)] w fun e w' => e = .returned (.bool true) ∧ PushOf b0 g B m n cap w w' r2 lo q qs f S 3 := by
  obtain ⟨r', hr'⟩ : ∃ r' : ByteArray, r'.data.toList = r.data.toList.drop (blk r.data.toList) := ⟨ba (r.data.toList.drop (blk r.data.toList)), ba_data _⟩
  have HT0 := Lib.hid (take_rs h 91 (by decide) hs false h1 r' (by rw [if_neg Bool.false_ne_true]; exact hr'))
  have hs' : r'.size ≤ 1000000 := by
    have e1 : r'.data.toList.length = r'.size := rfl
    have e2 : r.data.toList.length = r.size := rfl
    rw [hr', List.length_drop] at e1
    omega
  have hb0 : blk r'.data.toList = 0 := by rw [hr']; exact blk_idem _
  have HT2 := Lib.hid (fun W (hW : RS b0 g B m n cap W r' lo q qs f S) => take_rs hW 123 (by decide) hs' true (by rw [hb0, List.drop_zero, hr']; exact h2) r2 (by rw [if_pos rfl, hb0, hr', hr, List.drop_drop]))
  clear h hs h1 h2 hr hr' hs' hb0
  obtain ⟨j0, hj0, hy0, hy1, hy2⟩ := infoN
  go_enter Tryz.func26, Tryz.ntmps26
  go_wp2_with fail
  refine HT0.out.mono ?_
  rintro e W0 ⟨rfl, hR, hB⟩
  have HB0 := Lib.hid hB
  have HT := Lib.hid (HT2.out _ hR)
  clear hR hB
  go_wp2_with fail
  refine HT.out.mono ?_
  rintro e W1 ⟨rfl, hR, hB9⟩
  have hB := HB0.out.trans hB9
  clear hB9
  have hbd := below_drew W1
  have HB := Lib.hid (hR.bb hB hbd)
  have HR := Lib.hid (hR.go hbd)
  clear hR hB hbd
  obtain ⟨⟨c0, c1⟩, f0, f1⟩ := HR.out.cells
  obtain ⟨XS, hXS⟩ : ∃ XS, flat4 (q :: qs).reverse = XS := ⟨_, rfl⟩
  have hown := HR.out.2.2.1
  have hnm := HR.out.nums
  have hXL : XS.length = n * 4 := by rw [← hXS, flat4_len, List.length_reverse, List.length_cons]; omega
  rw [hXS] at hown
  have HOWN := Lib.hid hown
  have HXS := Lib.hid hXS
  have HXL := Lib.hid hXL
  have hBg : B ≠ g := HR.out.apart
  have hnB : (Value.slice (some ⟨B, 0, none⟩) n cap).ownBlock ≠ some g := fun e => hBg (by injection e)
  have hglt : g < W1.heap.size := HR.out.lt.1
  have hb0l : b0 ≤ W1.heap.size := by have := HR.out.below_g; omega
  have wn : IntKind.i64.wrap (n : Int) = (n : Int) := IntWalk.i64_in _ (by omega)
  have ca1 : (W1.alloc (.cells #[.int .i64 0, .string ⟨#[]⟩, .slice none 0 0, .slice none 0 0] 25)).cell? ⟨g, 1, none⟩ = some (.slice (some ⟨B, 0, none⟩) n cap) := cells_alloc (w := W1) c1
  have ln : (n : Int) < (n : Int) + 1 := by omega
  have zn : (0 : Int) ≤ (n : Int) := by omega
  have HFIN := Lib.hid (fun (gb cb : Nat) (w4 : World) (hownN : w4.ownsRow b0 25 4 (.slice (some ⟨gb, 0, none⟩) (n + 1) cb) (n + 1) (XS ++ [.int .i64 0, .string ⟨#[]⟩, .slice none 0 0, .slice none 0 0])) (hgN : World.grownBy (W1.drew.alloc (.cells #[.int .i64 0, .string ⟨#[]⟩, .slice none 0 0, .slice none 0 0] 25)) w4 (Value.slice (some ⟨B, 0, none⟩) n cap).ownBlock) (hatN : (Value.slice (some ⟨B, 0, none⟩) n cap).ownBlock = some gb ∨ gb = (W1.drew.alloc (.cells #[.int .i64 0, .string ⟨#[]⟩, .slice none 0 0, .slice none 0 0] 25)).heap.size) =>
    have hb9 : Below W1.drew.heap.size W1.drew (W1.drew.alloc (.cells #[.int .i64 0, .string ⟨#[]⟩, .slice none 0 0, .slice none 0 0] 25)) := (Below.refl _ _).alloc (Nat.le_refl _) _
    have hk9 : gb = B ∨ gb = (W1.drew.alloc (.cells #[.int .i64 0, .string ⟨#[]⟩, .slice none 0 0, .slice none 0 0] 25)).heap.size := hatN.imp (fun e => by injection e with e; exact e.symm) fun e => e
    And.intro (HR.out.push (k := 3) hb9 hownN (by rw [HXS.out]) hgN hk9)
      (HR.out.push_below HB.out hb9 hgN (hownN.lt gb rfl).1 (.int .i64 3) (.string ⟨#[]⟩) (.slice none 0 0) (.slice none 0 0) (.slice (some ⟨gb, 0, none⟩) (n + 1) cb) (n * 4) 1))
  clear hown hXS hXL hnm
  go_upto_region 6 with fail
  go_region_law (first
    | (refine step_append_lies _ rfl (.tmp 13) (.tmp 17) 23 rfl b0 25 j0 _ 4 72 Tryz.underlying23 hj0 hy0 hy1 hy2 rfl (by decide) (.slice (some ⟨B, 0, none⟩) n cap) n XS rfl (HOWN.out.alloc _) _ 1 1 [.int .i64 0, .string ⟨#[]⟩, .slice none 0 0, .slice none 0 0] rfl rfl (news_blk #[.int .i64 0, .string ⟨#[]⟩, .slice none 0 0, .slice none 0 0] (alloc_at _ _)) zero_one (by omega) (by unfold maxLen; omega) (by omega) (by simp; omega) _ rfl ?_
       intro gb cb w4 hownN hgN hatN hltN
       obtain ⟨⟨y0, y1, y2, y3⟩, fy0, fy1, fy2, fy3⟩ := row_cells hownN rfl HXL.out
       have hz4 : w4.cell? ⟨g, 1, none⟩ = some (.slice (some ⟨B, 0, none⟩) n cap) := cell_grown (cells_alloc c1) hgN hnB
       have hf4 : w4.frozen? ⟨g, 1, none⟩ = false := frozen_grown (frozen_alloc f1 hglt) hgN (by simp; omega) hnB
       have gB : gb ≠ g := lies_ne hatN hnB (by simp; omega)
       have Bg : g ≠ gb := fun e => gB e.symm))
  all_goals
    have HK := Lib.hid (HFIN.out gb cb w4 hownN hgN hatN)
    clear hownN hgN hatN hltN
    go_wp2
    go_ret
    refine ⟨rfl, gb, cb, w4.heap.size, ⟨.int .i64 3, .string ⟨#[]⟩, .slice none 0 0, .slice none 0 0⟩, ?_, ?_⟩
    · first
        | with_reducible exact HK.out.1
        | (rw [set_comm4 _ Bg]; with_reducible exact HK.out.1)
    · first
        | with_reducible exact HK.out.2
        | (rw [set_comm4 _ Bg]; with_reducible exact HK.out.2)
end
end Go.Proofs.YtemndagaicamiaaGreatDoor
