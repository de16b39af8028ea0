/- FloRd6, FloRd10 -/
import Derived.Test.YtmdgpejedbkkdaaGreatDoorWT32
import Derived.Test.YtmdgpejedbkkdaaGreatDoorWT33
set_option linter.unusedVariables false
set_option linter.unusedSimpArgs false
set_option maxRecDepth 100000
set_option maxHeartbeats 16000000
open Go.Lib (hid)
namespace Go.Proofs.YtmdgpejedbkkdaaGreatDoor
section
open Go.RowKit Go.Sort
open Nw N8 Q6 F9 Go.ChangeShapes Go.WideShapes
section
variable {b0 g B m n cap lo : Nat} {w : World} {r : ByteArray} {q : Q4} {qs : List Q4} {f : Fr} {S : List Fr}
theorem RS.push_below {w0 w1 w2 : World} {gb : Nat} (h : RS b0 g B m n cap w r lo q qs f S) (hB : Below b0 w0 w) (hb : Below w.heap.size w w1) (hg : w1.grownBy w2 (some B)) (hgb : b0 ≤ gb) (a b c d v : Value) (i j : Nat) :
  Below b0 w0 (((((w2.setCell ⟨gb, i, none⟩ a).setCell ⟨gb, i + 1, none⟩ b).setCell ⟨gb, i + 2, none⟩ c).setCell ⟨gb, i + 3, none⟩ d).setCell ⟨g, j, none⟩ v) := by
 have hlt := h.lt
 have h0 := h.below_g
 have hs := hb.size
 have h2 : Below b0 w0 w2 := (hB.trans (hb.mono (by omega))).grown hg (by omega) fun k e => by injection e with e; omega
 exact ((((h2.setCell (p := ⟨gb, i, none⟩) hgb a).setCell (p := ⟨gb, i + 1, none⟩) hgb b).setCell (p := ⟨gb, i + 2, none⟩) hgb c).setCell (p := ⟨gb, i + 3, none⟩) hgb d).setCell (p := ⟨g, j, none⟩) h0 v
theorem begin_no (h : RS b0 g B m n cap w r lo q qs f S) (hs : r.size ≤ 1000000) (h1 : isC 91 ((r.data.toList.drop (blk r.data.toList)).headD 0) = false) (h2 : isC 123 ((r.data.toList.drop (blk r.data.toList)).headD 0) = false) (r' : ByteArray) (hr : r'.data.toList = r.data.toList.drop (blk r.data.toList)) :
  Calls Tryz.prog 150 #[.pointer (some ⟨g, 0, none⟩)] w fun e w' => e = .returned (.bool false) ∧ RS b0 g B m n cap w' r' lo q qs f S ∧ Below b0 w w' := by
 have HT := hid (take_rs h 91 (by decide) hs false h1 r' (by rw [if_neg Bool.false_ne_true]; exact hr))
 have hs' : r'.size ≤ 1000000 := by
  have e1 : r'.data.toList.length = r'.size := rfl
  have e2 : r.data.toList.length = r.size := rfl
  rw [hr, List.length_drop] at e1
  omega
 have hb0 : blk r'.data.toList = 0 := by rw [hr]; exact blk_idem _
 have HT2 := hid (fun W (hW : RS b0 g B m n cap W r' lo q qs f S) => take_rs hW 123 (by decide) hs' false (by rw [hb0, List.drop_zero, hr]; exact h2) r' (by rw [if_neg Bool.false_ne_true, hb0, List.drop_zero]))
 clear h hs h1 h2 hr hs' hb0
 go_enter Tryz.func150, Tryz.ntmps150
 go_wp2_with fail
 refine HT.out.mono ?_
 rintro e w1 ⟨rfl, hR, hB⟩
 have HB := hid hB
 have HX := hid (HT2.out _ hR)
 clear hR hB
 go_wp2_with fail
 refine HX.out.mono ?_
 rintro e w2 ⟨rfl, hR, hB⟩
 have HB2 := hid (HB.out.trans hB)
 have HR := hid hR
 clear hR hB
 go_wp2
 go_ret
 exact ⟨rfl, HR.out, HB2.out⟩
def PushOf (b0 g B m n cap : Nat) (w W : World) (r : ByteArray) (lo : Nat) (q : Q4) (qs : List Q4) (f : Fr) (S : List Fr) (k : Int) : Prop :=
 ∃ B' cap' lo' q', RS b0 g B' n (n + 1) cap' W r lo' q' (q :: qs) ⟨k, [], []⟩ (f :: S) ∧ Below b0 w W
theorem begin_seq (h : RS b0 g B m n cap w r lo q qs f S) (hs : r.size ≤ 1000000) (hn : n ≤ 1000000) (h1 : isC 91 ((r.data.toList.drop (blk r.data.toList)).headD 0) = true) (r2 : ByteArray) (hr : r2.data.toList = r.data.toList.drop (blk r.data.toList + 1)) :
  Calls Tryz.prog 150 #[.pointer (some ⟨g, 0, none⟩)] w fun e w' => e = .returned (.bool true) ∧ PushOf b0 g B m n cap w w' r2 lo q qs f S 2 := by
 have HT := hid (take_rs h 91 (by decide) hs true h1 r2 (by rw [if_pos rfl]; exact hr))
 clear h hs h1 hr
 obtain ⟨j0, hj0, hy0, hy1, hy2⟩ := infoN
 go_enter Tryz.func150, Tryz.ntmps150
 go_wp2_with fail
 refine HT.out.mono ?_
 rintro e W1 ⟨rfl, hR, hB⟩
 have hbd := below_drew W1
 have HB := hid (hR.bb hB hbd)
 have HR := hid (hR.go hbd)
 clear hR hB hbd
 obtain ⟨⟨c0, c1⟩, f0, f1⟩ := HR.out.cells
 obtain ⟨XS, hXS⟩ : ∃ XS, flat4 (q :: qs).reverse = XS := ⟨_, rfl⟩
 have hown := HR.out.2.2.1
 have hnm := HR.out.nums
 have hXL : XS.length = n * 4 := by rw [← hXS, flat4_len, List.length_reverse, List.length_cons]; omega
 rw [hXS] at hown
 have HOWN := hid hown
 have HXS := hid hXS
 have HXL := hid hXL
 have hBg : B ≠ g := HR.out.apart
 have hnB : (Value.slice (some ⟨B, 0, none⟩) n cap).ownBlock ≠ some g := fun e => hBg (by injection e)
 have hglt : g < W1.heap.size := HR.out.lt.1
 have hb0l : b0 ≤ W1.heap.size := by have := HR.out.below_g; omega
 have wn : IntKind.i64.wrap (n : Int) = (n : Int) := IntWalk.i64_in _ (by omega)
 have ca1 : (W1.alloc (.cells #[.int .i64 0, .string ⟨#[]⟩, .slice none 0 0, .slice none 0 0] 25)).cell? ⟨g, 1, none⟩ = some (.slice (some ⟨B, 0, none⟩) n cap) := cells_alloc (w := W1) c1
 have ln : (n : Int) < (n : Int) + 1 := by omega
 have zn : (0 : Int) ≤ (n : Int) := by omega
 have HFIN := hid (fun (gb cb : Nat) (w4 : World) (hownN : w4.ownsRow b0 25 4 (.slice (some ⟨gb, 0, none⟩) (n + 1) cb) (n + 1) (XS ++ [.int .i64 0, .string ⟨#[]⟩, .slice none 0 0, .slice none 0 0])) (hgN : World.grownBy (W1.drew.alloc (.cells #[.int .i64 0, .string ⟨#[]⟩, .slice none 0 0, .slice none 0 0] 25)) w4 (Value.slice (some ⟨B, 0, none⟩) n cap).ownBlock) (hatN : (Value.slice (some ⟨B, 0, none⟩) n cap).ownBlock = some gb ∨ gb = (W1.drew.alloc (.cells #[.int .i64 0, .string ⟨#[]⟩, .slice none 0 0, .slice none 0 0] 25)).heap.size) =>
  have hb9 : Below W1.drew.heap.size W1.drew (W1.drew.alloc (.cells #[.int .i64 0, .string ⟨#[]⟩, .slice none 0 0, .slice none 0 0] 25)) := (Below.refl _ _).alloc (Nat.le_refl _) _
  have hk9 : gb = B ∨ gb = (W1.drew.alloc (.cells #[.int .i64 0, .string ⟨#[]⟩, .slice none 0 0, .slice none 0 0] 25)).heap.size := hatN.imp (fun e => by injection e with e; exact e.symm) fun e => e
  And.intro (HR.out.push (k := 2) hb9 hownN (by rw [HXS.out]) hgN hk9)
   (HR.out.push_below HB.out hb9 hgN (hownN.lt gb rfl).1 (.int .i64 2) (.string ⟨#[]⟩) (.slice none 0 0) (.slice none 0 0) (.slice (some ⟨gb, 0, none⟩) (n + 1) cb) (n * 4) 1))
 clear hown hXS hXL hnm
 go_upto_region 6 with fail
 go_region_law (first
  | (
   refine step_append_lies _ rfl (.tmp 13) (.tmp 17) 23 rfl b0 25 j0 _ 4 72 Tryz.underlying23 hj0 hy0 hy1 hy2 rfl (by decide) (.slice (some ⟨B, 0, none⟩) n cap) n XS rfl (HOWN.out.alloc _) _ 1 1 [.int .i64 0, .string ⟨#[]⟩, .slice none 0 0, .slice none 0 0] rfl rfl (news_blk #[.int .i64 0, .string ⟨#[]⟩, .slice none 0 0, .slice none 0 0] (alloc_at _ _)) zero_one (by omega) (by unfold maxLen; omega) (by omega) (by simp; omega) _ rfl ?_
   intro gb cb w4 hownN hgN hatN hltN
   obtain ⟨⟨y0, y1, y2, y3⟩, fy0, fy1, fy2, fy3⟩ := row_cells hownN rfl HXL.out
   have hz4 : w4.cell? ⟨g, 1, none⟩ = some (.slice (some ⟨B, 0, none⟩) n cap) := cell_grown (cells_alloc c1) hgN hnB
   have hf4 : w4.frozen? ⟨g, 1, none⟩ = false := frozen_grown (frozen_alloc f1 hglt) hgN (by simp; omega) hnB
   have gB : gb ≠ g := lies_ne hatN hnB (by simp; omega)
   have Bg : g ≠ gb := fun e => gB e.symm))
 all_goals
  have HK := hid (HFIN.out gb cb w4 hownN hgN hatN)
  clear hownN hgN hatN hltN
  go_wp2
  go_ret
  refine ⟨rfl, gb, cb, w4.heap.size, ⟨.int .i64 2, .string ⟨#[]⟩, .slice none 0 0, .slice none 0 0⟩, ?_, ?_⟩
  ·first
    | with_reducible exact HK.out.1
    | (rw [set_comm4 _ Bg]; with_reducible exact HK.out.1)
  ·first
    | with_reducible exact HK.out.2
    | (rw [set_comm4 _ Bg]; with_reducible exact HK.out.2)
theorem begin_map (h : RS b0 g B m n cap w r lo q qs f S) (hs : r.size ≤ 1000000) (hn : n ≤ 1000000) (h1 : isC 91 ((r.data.toList.drop (blk r.data.toList)).headD 0) = false) (h2 : isC 123 ((r.data.toList.drop (blk r.data.toList)).headD 0) = true) (r2 : ByteArray) (hr : r2.data.toList = r.data.toList.drop (blk r.data.toList + 1)) :
  Calls Tryz.prog 150 #[.pointer (some ⟨g, 0, none⟩)] w fun e w' => e = .returned (.bool true) ∧ PushOf b0 g B m n cap w w' r2 lo q qs f S 3 := by
 obtain ⟨r', hr'⟩ : ∃ r' : ByteArray, r'.data.toList = r.data.toList.drop (blk r.data.toList) := ⟨ba (r.data.toList.drop (blk r.data.toList)), ba_data _⟩
 have HT0 := hid (take_rs h 91 (by decide) hs false h1 r' (by rw [if_neg Bool.false_ne_true]; exact hr'))
 have hs' : r'.size ≤ 1000000 := by
  have e1 : r'.data.toList.length = r'.size := rfl
  have e2 : r.data.toList.length = r.size := rfl
  rw [hr', List.length_drop] at e1
  omega
 have hb0 : blk r'.data.toList = 0 := by rw [hr']; exact blk_idem _
 have HT2 := hid (fun W (hW : RS b0 g B m n cap W r' lo q qs f S) => take_rs hW 123 (by decide) hs' true (by rw [hb0, List.drop_zero, hr']; exact h2) r2 (by rw [if_pos rfl, hb0, hr', hr, List.drop_drop]))
 clear h hs h1 h2 hr hr' hs' hb0
 obtain ⟨j0, hj0, hy0, hy1, hy2⟩ := infoN
 go_enter Tryz.func150, Tryz.ntmps150
 go_wp2_with fail
 refine HT0.out.mono ?_
 rintro e W0 ⟨rfl, hR, hB⟩
 have HB0 := hid hB
 have HT := hid (HT2.out _ hR)
 clear hR hB
 go_wp2_with fail
 refine HT.out.mono ?_
 rintro e W1 ⟨rfl, hR, hB9⟩
 have hB := HB0.out.trans hB9
 clear hB9
 have hbd := below_drew W1
 have HB := hid (hR.bb hB hbd)
 have HR := hid (hR.go hbd)
 clear hR hB hbd
 obtain ⟨⟨c0, c1⟩, f0, f1⟩ := HR.out.cells
 obtain ⟨XS, hXS⟩ : ∃ XS, flat4 (q :: qs).reverse = XS := ⟨_, rfl⟩
 have hown := HR.out.2.2.1
 have hnm := HR.out.nums
 have hXL : XS.length = n * 4 := by rw [← hXS, flat4_len, List.length_reverse, List.length_cons]; omega
 rw [hXS] at hown
 have HOWN := hid hown
 have HXS := hid hXS
 have HXL := hid hXL
 have hBg : B ≠ g := HR.out.apart
 have hnB : (Value.slice (some ⟨B, 0, none⟩) n cap).ownBlock ≠ some g := fun e => hBg (by injection e)
 have hglt : g < W1.heap.size := HR.out.lt.1
 have hb0l : b0 ≤ W1.heap.size := by have := HR.out.below_g; omega
 have wn : IntKind.i64.wrap (n : Int) = (n : Int) := IntWalk.i64_in _ (by omega)
 have ca1 : (W1.alloc (.cells #[.int .i64 0, .string ⟨#[]⟩, .slice none 0 0, .slice none 0 0] 25)).cell? ⟨g, 1, none⟩ = some (.slice (some ⟨B, 0, none⟩) n cap) := cells_alloc (w := W1) c1
 have ln : (n : Int) < (n : Int) + 1 := by omega
 have zn : (0 : Int) ≤ (n : Int) := by omega
 have HFIN := hid (fun (gb cb : Nat) (w4 : World) (hownN : w4.ownsRow b0 25 4 (.slice (some ⟨gb, 0, none⟩) (n + 1) cb) (n + 1) (XS ++ [.int .i64 0, .string ⟨#[]⟩, .slice none 0 0, .slice none 0 0])) (hgN : World.grownBy (W1.drew.alloc (.cells #[.int .i64 0, .string ⟨#[]⟩, .slice none 0 0, .slice none 0 0] 25)) w4 (Value.slice (some ⟨B, 0, none⟩) n cap).ownBlock) (hatN : (Value.slice (some ⟨B, 0, none⟩) n cap).ownBlock = some gb ∨ gb = (W1.drew.alloc (.cells #[.int .i64 0, .string ⟨#[]⟩, .slice none 0 0, .slice none 0 0] 25)).heap.size) =>
  have hb9 : Below W1.drew.heap.size W1.drew (W1.drew.alloc (.cells #[.int .i64 0, .string ⟨#[]⟩, .slice none 0 0, .slice none 0 0] 25)) := (Below.refl _ _).alloc (Nat.le_refl _) _
  have hk9 : gb = B ∨ gb = (W1.drew.alloc (.cells #[.int .i64 0, .string ⟨#[]⟩, .slice none 0 0, .slice none 0 0] 25)).heap.size := hatN.imp (fun e => by injection e with e; exact e.symm) fun e => e
  And.intro (HR.out.push (k := 3) hb9 hownN (by rw [HXS.out]) hgN hk9)
   (HR.out.push_below HB.out hb9 hgN (hownN.lt gb rfl).1 (.int .i64 3) (.string ⟨#[]⟩) (.slice none 0 0) (.slice none 0 0) (.slice (some ⟨gb, 0, none⟩) (n + 1) cb) (n * 4) 1))
 clear hown hXS hXL hnm
 go_upto_region 6 with fail
 go_region_law (first
  | (
   refine step_append_lies _ rfl (.tmp 13) (.tmp 17) 23 rfl b0 25 j0 _ 4 72 Tryz.underlying23 hj0 hy0 hy1 hy2 rfl (by decide) (.slice (some ⟨B, 0, none⟩) n cap) n XS rfl (HOWN.out.alloc _) _ 1 1 [.int .i64 0, .string ⟨#[]⟩, .slice none 0 0, .slice none 0 0] rfl rfl (news_blk #[.int .i64 0, .string ⟨#[]⟩, .slice none 0 0, .slice none 0 0] (alloc_at _ _)) zero_one (by omega) (by unfold maxLen; omega) (by omega) (by simp; omega) _ rfl ?_
   intro gb cb w4 hownN hgN hatN hltN
   obtain ⟨⟨y0, y1, y2, y3⟩, fy0, fy1, fy2, fy3⟩ := row_cells hownN rfl HXL.out
   have hz4 : w4.cell? ⟨g, 1, none⟩ = some (.slice (some ⟨B, 0, none⟩) n cap) := cell_grown (cells_alloc c1) hgN hnB
   have hf4 : w4.frozen? ⟨g, 1, none⟩ = false := frozen_grown (frozen_alloc f1 hglt) hgN (by simp; omega) hnB
   have gB : gb ≠ g := lies_ne hatN hnB (by simp; omega)
   have Bg : g ≠ gb := fun e => gB e.symm))
 all_goals
  have HK := hid (HFIN.out gb cb w4 hownN hgN hatN)
  clear hownN hgN hatN hltN
  go_wp2
  go_ret
  refine ⟨rfl, gb, cb, w4.heap.size, ⟨.int .i64 3, .string ⟨#[]⟩, .slice none 0 0, .slice none 0 0⟩, ?_, ?_⟩
  ·first
    | with_reducible exact HK.out.1
    | (rw [set_comm4 _ Bg]; with_reducible exact HK.out.1)
  ·first
    | with_reducible exact HK.out.2
    | (rw [set_comm4 _ Bg]; with_reducible exact HK.out.2)
end
end
section
open Go.RowKit Go.Sort
open Nw N8 Q6 F9 Go.ChangeShapes Go.WideShapes
section
variable {b0 g N : Nat} {w : World} {r : ByteArray} {f : Fr} {S : List Fr} {P : Option Nd}
theorem scl_kind {l : L8} {d : Nd} (h : sclS true l = some d) : d = nul ∨ ∃ x, d = txt x := by
 rw [sclS_true] at h
 by_cases h1 : bad3 l = true
 ·rw [if_pos h1] at h
  injection h with h
  exact .inl h.symm
 ·rw [if_neg h1] at h
  by_cases h2 : (isQ (l.headD 0) && decide ((scnP l).map (·.2) = some l.length)) = true
  ·rw [if_pos h2] at h
   cases hp : scnP l with
   | none => rw [hp] at h; cases h
   | some p => rw [hp] at h; injection h with h; exact .inr ⟨_, h.symm⟩
  ·rw [if_neg h2] at h
   by_cases h3 : rowB l = true
   ·rw [if_pos h3] at h
    injection h with h; exact .inr ⟨_, h.symm⟩
   ·rw [if_neg h3] at h; cases h
theorem size_le {φ : Fr → List Fr → L8 → Option Nd} {M : Nat} (h : Hld φ N M f S r.data.toList P) (hN : N ≤ 900000) : r.size ≤ 1000000 ∧ f.ks.length ≤ 1000000 ∧ S.length ≤ 900000 := by
 have e : r.data.toList.length = r.size := rfl
 have h1 := h.2.2.1
 omega
theorem readKey_st (h : ST elm b0 g N N P w r f S) (hN : N ≤ 900000) :
  Calls Tryz.prog 149 #[.pointer (some ⟨g, 0, none⟩)] w fun e w' => (e = .returned (.bool false) ∧ P = none ∧ Below b0 w w') ∨
   (e = .returned (.bool true) ∧ Below b0 w w' ∧ ∃ r' f', ST val b0 g N N P w' r' f' S ∧ r'.size ≤ r.size) := by
 obtain ⟨B, m, n, cap, lo, q, qs, hR, hH⟩ := h
 obtain ⟨hs, hkl, -⟩ := size_le hH hN
 by_cases hk : f.k = 3
 ·obtain ⟨l, hl⟩ : ∃ l, r.data.toList.drop (blk r.data.toList) = l := ⟨_, rfl⟩
  cases hP : sclS true (frm l) with
  | none =>
   refine (readKey_none hR hk hs l hl none hP rfl).mono ?_
   rintro e w' ⟨rfl, hb⟩
   exact .inl ⟨rfl, hH.key_bad hk hl (fun x hx _ => by rw [hP] at hx; cases hx), hb⟩
  | some d =>
   rcases scl_kind hP with rfl | ⟨x, rfl⟩
   ·refine (readKey_null hR hk hs l hl _ hP rfl).mono ?_
    rintro e w' ⟨rfl, hb⟩
    refine .inl ⟨rfl, hH.key_bad hk hl (fun x hx _ => ?_), hb⟩
    rw [hP] at hx
    injection hx with hx
    cases hx
   ·cases hc : colon l with
    | false =>
     refine (readKey_colon hR hk hs l hl _ hP x rfl hc).mono ?_
     rintro e w' ⟨rfl, hb⟩
     exact .inl ⟨rfl, hH.key_bad hk hl (fun x _ h => by rw [hc] at h; cases h), hb⟩
    | true =>
     obtain ⟨r2, h2⟩ : ∃ r2 : ByteArray, r2.data.toList = (l.drop (tkn l)).drop (blk (l.drop (tkn l)) + 1) := ⟨ba _, ba_data _⟩
     have hg := hH.key_good hk hl hP hc h2
     refine (readKey_yes hR hk hs l hl _ hP x rfl hc hkl r2 h2).mono ?_
     rintro e w' ⟨rfl, ⟨q', hR'⟩, hb⟩
     have h3 : r2.size + 1 ≤ r.size := hg.2
     exact .inr ⟨rfl, hb, r2, f.key x, ⟨_, _, _, _, _, _, _, hR', hg.1⟩, by omega⟩
 ·refine (readKey_not hR hk).mono ?_
  rintro e w' ⟨rfl, hb⟩
  exact .inr ⟨rfl, hR.bb (Below.refl _ _) hb, r, f, ⟨_, _, _, _, _, _, _, hR.go hb, hH.nokey hk⟩, Nat.le_refl _⟩
theorem begin_st (h : ST val b0 g N N P w r f S) (hN : N ≤ 900000) :
  Calls Tryz.prog 150 #[.pointer (some ⟨g, 0, none⟩)] w fun e w' =>
   (e = .returned (.bool true) ∧ Below b0 w w' ∧ ∃ r' f', ST opn b0 g N N P w' r' f' (f :: S) ∧ r'.size + 1 ≤ r.size) ∨
   (e = .returned (.bool false) ∧ Below b0 w w' ∧ ∃ r', ST val b0 g N N P w' r' f S ∧ r'.size ≤ r.size ∧ (r'.data.toList.drop (blk r'.data.toList)).headD 0 ≠ 91 ∧ (r'.data.toList.drop (blk r'.data.toList)).headD 0 ≠ 123) := by
 obtain ⟨B, m, n, cap, lo, q, qs, hR, hH⟩ := h
 obtain ⟨hs, -, hS⟩ := size_le hH hN
 have hn : n ≤ 1000000 := by
  have := hR.nums
  omega
 obtain ⟨r2, h2⟩ : ∃ r2 : ByteArray, r2.data.toList = r.data.toList.drop (blk r.data.toList + 1) := ⟨ba _, ba_data _⟩
 obtain ⟨r3, h3⟩ : ∃ r3 : ByteArray, r3.data.toList = r.data.toList.drop (blk r.data.toList) := ⟨ba _, ba_data _⟩
 by_cases h91 : (r.data.toList.drop (blk r.data.toList)).headD 0 = 91
 ·have ho := hH.open_any (k := 2) (.inl rfl) (if_pos rfl).symm h91 h2
  refine (begin_seq hR hs hn (isC_iff.2 h91) r2 h2).mono ?_
  rintro e w' ⟨rfl, B', cap', lo', q', hR', hb⟩
  exact .inl ⟨rfl, hb, r2, _, ⟨_, _, _, _, _, _, _, hR', ho.1⟩, ho.2⟩
 ·have e91 : isC 91 ((r.data.toList.drop (blk r.data.toList)).headD 0) = false := by rw [Bool.eq_false_iff]; exact fun e => h91 (isC_iff.1 e)
  by_cases h123 : (r.data.toList.drop (blk r.data.toList)).headD 0 = 123
  ·have ho := hH.open_any (k := 3) (.inr rfl) (if_neg (by decide)).symm h123 h2
   refine (begin_map hR hs hn e91 (isC_iff.2 h123) r2 h2).mono ?_
   rintro e w' ⟨rfl, B', cap', lo', q', hR', hb⟩
   exact .inl ⟨rfl, hb, r2, _, ⟨_, _, _, _, _, _, _, hR', ho.1⟩, ho.2⟩
  ·have e123 : isC 123 ((r.data.toList.drop (blk r.data.toList)).headD 0) = false := by rw [Bool.eq_false_iff]; exact fun e => h123 (isC_iff.1 e)
   have hz : r3.data.toList.drop (blk r3.data.toList) = r.data.toList.drop (blk r.data.toList) := by rw [h3, blk_idem, List.drop_zero]
   refine (begin_no hR hs e91 e123 r3 h3).mono ?_
   rintro e w' ⟨rfl, hR', hb⟩
   refine .inr ⟨rfl, hb, r3, ⟨_, _, _, _, _, _, _, hR', hH.val_skip h3⟩, ?_, by rw [hz]; exact h91, by rw [hz]; exact h123⟩
   have e1 : r.data.toList.length = r.size := rfl
   have e2 : r3.data.toList.length = r3.size := rfl
   rw [h3, List.length_drop] at e2
   omega
theorem isEnding_st {g1 : Fr} {T : List Fr} (h : ST opn b0 g N N P w r f (g1 :: T)) :
  Calls Tryz.prog 151 #[.pointer (some ⟨g, 0, none⟩)] w fun e w' => Below b0 w w' ∧ ∃ r', r'.size ≤ r.size ∧
   ((e = .returned (.bool true) ∧ ST thn b0 g N (N + 1) P w' r' f (g1 :: T)) ∨ (e = .returned (.bool false) ∧ ST elm b0 g N N P w' r' f (g1 :: T))) := by
 obtain ⟨B, m, n, cap, lo, q, qs, hR, hH⟩ := h
 obtain ⟨r3, h3⟩ : ∃ r3 : ByteArray, r3.data.toList = r.data.toList.drop (blk r.data.toList) := ⟨ba _, ba_data _⟩
 have hs3 : r3.size ≤ r.size := by
  have e1 : r.data.toList.length = r.size := rfl
  have e2 : r3.data.toList.length = r3.size := rfl
  rw [h3, List.length_drop] at e2
  omega
 have hk : f.k = 2 ∨ f.k = 3 := hH.1.1.imp (fun e => e.1) id
 by_cases hc : (r.data.toList.drop (blk r.data.toList)).headD 0 = clo f.k
 ·refine (isEnding_rs hR hk r3 h3 true (by rw [h3]; exact isC_iff.2 hc)).mono ?_
  rintro e w' ⟨rfl, hR', hb⟩
  exact ⟨hb, r3, hs3, .inl ⟨rfl, _, _, _, _, _, _, _, hR', hH.opn_yes hc h3⟩⟩
 ·refine (isEnding_rs hR hk r3 h3 false (by rw [h3, Bool.eq_false_iff]; exact fun e => hc (isC_iff.1 e))).mono ?_
  rintro e w' ⟨rfl, hR', hb⟩
  exact ⟨hb, r3, hs3, .inr ⟨rfl, _, _, _, _, _, _, _, hR', hH.opn_no hc h3⟩⟩
theorem readScalar_st (h : ST val b0 g N N P w r f S) (hN : N ≤ 900000) (h91 : (r.data.toList.drop (blk r.data.toList)).headD 0 ≠ 91) (h123 : (r.data.toList.drop (blk r.data.toList)).headD 0 ≠ 123) :
  Calls Tryz.prog 152 #[.pointer (some ⟨g, 0, none⟩)] w fun e w' => (e = .returned (.bool false) ∧ P = none ∧ Below b0 w w') ∨
   (e = .returned (.bool true) ∧ Below b0 w w' ∧ ∃ r' f', ST thn b0 g N (N + 1) P w' r' f' S ∧ f'.ds ≠ [] ∧ r'.size ≤ r.size) := by
 obtain ⟨B, m, n, cap, lo, q, qs, hR, hH⟩ := h
 obtain ⟨hs, -, -⟩ := size_le hH hN
 have hdl : f.ds.length ≤ 1000000 := by have := hH.2.2.1.1; omega
 obtain ⟨l, hl⟩ : ∃ l, r.data.toList.drop (blk r.data.toList) = l := ⟨_, rfl⟩
 rw [hl] at h91 h123
 obtain ⟨r2, h2⟩ : ∃ r2 : ByteArray, r2.data.toList = l.drop (tkn l) := ⟨ba _, ba_data _⟩
 cases hP : sclS true (frm l) with
 | none =>
  refine (readScalar_none hR hs l hl r2 h2 none hP rfl).mono ?_
  rintro e w' ⟨rfl, hb⟩
  exact .inl ⟨rfl, hH.scl_none hl h91 h123 hP, hb⟩
 | some d =>
  by_cases hf : frm l = []
  ·by_cases hk : f.k = 2
   ·refine (readScalar_seq hR hs l hl r2 h2 _ hP rfl hf hk).mono ?_
    rintro e w' ⟨rfl, hb⟩
    exact .inl ⟨rfl, hH.scl_seq hl h91 h123 hf hk, hb⟩
   ·have hg := hH.scl_some hl h91 h123 hP (.inr hk) h2
    refine (readScalar_nil hR hs l hl r2 h2 _ hP d rfl hdl hf hk).mono ?_
    rintro e w' ⟨rfl, ⟨q', hR'⟩, hb⟩
    exact .inr ⟨rfl, hb, r2, f.add d, ⟨_, _, _, _, _, _, _, hR', hg.1⟩, add_ne _ _, hg.2⟩
  ·have hg := hH.scl_some hl h91 h123 hP (.inl hf) h2
   refine (readScalar_txt hR hs l hl r2 h2 _ hP d rfl hdl hf).mono ?_
   rintro e w' ⟨rfl, ⟨q', hR'⟩, hb⟩
   exact .inr ⟨rfl, hb, r2, f.add d, ⟨_, _, _, _, _, _, _, hR', hg.1⟩, add_ne _ _, hg.2⟩
def Rdy (b0 g : Nat) (P : Option Nd) (w : World) : Prop := ∃ B m n cap lo r q qs f, RS b0 g B m n cap w r lo q qs f [] ∧ ∃ d ds, f.ds = d :: ds ∧ P = some d
theorem isDone_st (h : ST thn b0 g N (N + 1) P w r f []) (hf : f.ds ≠ []) :
  Calls Tryz.prog 154 #[.pointer (some ⟨g, 0, none⟩)] w fun e w' => Below b0 w w' ∧ ((e = .returned (.bool true) ∧ Rdy b0 g P w') ∨ (e = .returned (.bool false) ∧ P = none)) := by
 obtain ⟨B, m, n, cap, lo, q, qs, hR, hH⟩ := h
 have hd := hH.done
 by_cases hc : r.data.toList.length = blk r.data.toList
 ·rw [if_pos hc] at hd
  refine (isDone_rs hR true (decide_eq_true hc)).mono ?_
  rintro e w' ⟨rfl, ⟨r', hR'⟩, hb⟩
  refine ⟨hb, .inl ⟨rfl, _, _, _, _, _, _, _, _, _, hR', ?_⟩⟩
  cases hfd : f.ds with
  | nil => exact absurd hfd hf
  | cons d ds => rw [hfd] at hd; exact ⟨d, ds, rfl, hd⟩
 ·rw [if_neg hc] at hd
  refine (isDone_rs hR false (decide_eq_false hc)).mono ?_
  rintro e w' ⟨rfl, ⟨r', hR'⟩, hb⟩
  exact ⟨hb, .inr ⟨rfl, hd⟩⟩
theorem take_st {g1 : Fr} {T : List Fr} (h : ST thn b0 g N (N + 1) P w r f (g1 :: T)) (hN : N ≤ 900000) (hn : (r.data.toList.drop (blk r.data.toList)).headD 0 ≠ clo f.k ∨ twi f.ks = true) :
  Calls Tryz.prog 155 #[.pointer (some ⟨g, 0, none⟩), .string ⟨#[44]⟩] w fun e w' => Below b0 w w' ∧
   ((e = .returned (.bool true) ∧ ∃ r', ST elm b0 g N N P w' r' f (g1 :: T) ∧ r'.size + 1 ≤ r.size) ∨ (e = .returned (.bool false) ∧ P = none)) := by
 obtain ⟨B, m, n, cap, lo, q, qs, hR, hH⟩ := h
 obtain ⟨hs, -, -⟩ := size_le hH hN
 by_cases hc : (r.data.toList.drop (blk r.data.toList)).headD 0 = 44
 ·obtain ⟨r2, h2⟩ : ∃ r2 : ByteArray, r2.data.toList = r.data.toList.drop (blk r.data.toList + 1) := ⟨ba _, ba_data _⟩
  have hg := hH.comma hn hc h2
  refine (take_rs hR 44 (by decide) hs true (isC_iff.2 hc) r2 (by rw [if_pos rfl]; exact h2)).mono ?_
  rintro e w' ⟨rfl, hR', hb⟩
  exact ⟨hb, .inl ⟨rfl, r2, ⟨_, _, _, _, _, _, _, hR', hg.1⟩, hg.2⟩⟩
 ·obtain ⟨r2, h2⟩ : ∃ r2 : ByteArray, r2.data.toList = r.data.toList.drop (blk r.data.toList) := ⟨ba _, ba_data _⟩
  refine (take_rs hR 44 (by decide) hs false (by rw [Bool.eq_false_iff]; exact fun e => hc (isC_iff.1 e)) r2 (by rw [if_neg Bool.false_ne_true]; exact h2)).mono ?_
  rintro e w' ⟨rfl, hR', hb⟩
  exact ⟨hb, .inr ⟨rfl, hH.nocomma hn hc⟩⟩
end
end
end Go.Proofs.YtmdgpejedbkkdaaGreatDoor
