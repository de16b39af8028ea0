/- FloRd6, FloRd10, FloRd11, FloPrs -/
import Derived.Test.YtecglpocmhkkiaaGreatDoorPT3
import Derived.Test.YtecglpocmhkkiaaGreatDoorPT31
import Derived.Test.YtecglpocmhkkiaaGreatDoorPT32
import Derived.Test.YtecglpocmhkkiaaGreatDoorPT33
set_option linter.unusedVariables false
set_option linter.unusedSimpArgs false
set_option maxRecDepth 100000
set_option maxHeartbeats 16000000
open Go.Lib (hid)
namespace Go.Proofs.YtecglpocmhkkiaaGreatDoor
section
open Go.RowKit Go.Sort
open Nw N8 Q6 F9 Go.ChangeShapes Go.WideShapes
section
variable {b0 g B m n cap lo : Nat} {w : World} {r : ByteArray} {q : Q4} {qs : List Q4} {f : Fr} {S : List Fr}
theorem RS.push_below {w0 w1 w2 : World} {gb : Nat} (h : RS b0 g B m n cap w r lo q qs f S) (hB : Below b0 w0 w) (hb : Below w.heap.size w w1) (hg : w1.grownBy w2 (some B)) (hgb : b0 ≤ gb) (a b c d v : Value) (i j : Nat) :
  Below b0 w0 (((((w2.setCell ⟨gb, i, none⟩ a).setCell ⟨gb, i + 1, none⟩ b).setCell ⟨gb, i + 2, none⟩ c).setCell ⟨gb, i + 3, none⟩ d).setCell ⟨g, j, none⟩ v) := by
 have hlt := h.lt
 have h0 := h.below_g
 have hs := hb.size
 have h2 : Below b0 w0 w2 := (hB.trans (hb.mono (by omega))).grown hg (by omega) fun k e => by injection e with e; omega
 exact ((((h2.setCell (p := ⟨gb, i, none⟩) hgb a).setCell (p := ⟨gb, i + 1, none⟩) hgb b).setCell (p := ⟨gb, i + 2, none⟩) hgb c).setCell (p := ⟨gb, i + 3, none⟩) hgb d).setCell (p := ⟨g, j, none⟩) h0 v
theorem begin_no (h : RS b0 g B m n cap w r lo q qs f S) (hs : r.size ≤ 1000000) (h1 : isC 91 ((r.data.toList.drop (blk r.data.toList)).headD 0) = false) (h2 : isC 123 ((r.data.toList.drop (blk r.data.toList)).headD 0) = false) (r' : ByteArray) (hr : r'.data.toList = r.data.toList.drop (blk r.data.toList)) :
  Calls Tryz.prog 149 #[.pointer (some ⟨g, 0, none⟩)] w fun e w' => e = .returned (.bool false) ∧ RS b0 g B m n cap w' r' lo q qs f S ∧ Below b0 w w' := by
 have HT := hid (take_rs h 91 (by decide) hs false h1 r' (by rw [if_neg Bool.false_ne_true]; exact hr))
 have hs' : r'.size ≤ 1000000 := by
  have e1 : r'.data.toList.length = r'.size := rfl
  have e2 : r.data.toList.length = r.size := rfl
  rw [hr, List.length_drop] at e1
  omega
 have hb0 : blk r'.data.toList = 0 := by rw [hr]; exact blk_idem _
 have HT2 := hid (fun W (hW : RS b0 g B m n cap W r' lo q qs f S) => take_rs hW 123 (by decide) hs' false (by rw [hb0, List.drop_zero, hr]; exact h2) r' (by rw [if_neg Bool.false_ne_true, hb0, List.drop_zero]))
 clear h hs h1 h2 hr hs' hb0
 go_enter Tryz.func149, Tryz.ntmps149
 go_wp2_with fail
 refine HT.out.mono ?_
 rintro e w1 ⟨rfl, hR, hB⟩
 have HB := hid hB
 have HX := hid (HT2.out _ hR)
 clear hR hB
 go_wp2_with fail
 refine HX.out.mono ?_
 rintro e w2 ⟨rfl, hR, hB⟩
 have HB2 := hid (HB.out.trans hB)
 have HR := hid hR
 clear hR hB
 go_wp2
 go_ret
 exact ⟨rfl, HR.out, HB2.out⟩
def PushOf (b0 g B m n cap : Nat) (w W : World) (r : ByteArray) (lo : Nat) (q : Q4) (qs : List Q4) (f : Fr) (S : List Fr) (k : Int) : Prop :=
 ∃ B' cap' lo' q', RS b0 g B' n (n + 1) cap' W r lo' q' (q :: qs) ⟨k, [], []⟩ (f :: S) ∧ Below b0 w W
theorem begin_seq (h : RS b0 g B m n cap w r lo q qs f S) (hs : r.size ≤ 1000000) (hn : n ≤ 1000000) (h1 : isC 91 ((r.data.toList.drop (blk r.data.toList)).headD 0) = true) (r2 : ByteArray) (hr : r2.data.toList = r.data.toList.drop (blk r.data.toList + 1)) :
  Calls Tryz.prog 149 #[.pointer (some ⟨g, 0, none⟩)] w fun e w' => e = .returned (.bool true) ∧ PushOf b0 g B m n cap w w' r2 lo q qs f S 2 := by
 have HT := hid (take_rs h 91 (by decide) hs true h1 r2 (by rw [if_pos rfl]; exact hr))
 clear h hs h1 hr
 obtain ⟨j0, hj0, hy0, hy1, hy2⟩ := infoN
 go_enter Tryz.func149, Tryz.ntmps149
 go_wp2_with fail
 refine HT.out.mono ?_
 rintro e W1 ⟨rfl, hR, hB⟩
 have hbd := below_drew W1
 have HB := hid (hR.bb hB hbd)
 have HR := hid (hR.go hbd)
 clear hR hB hbd
 obtain ⟨⟨c0, c1⟩, f0, f1⟩ := HR.out.cells
 obtain ⟨XS, hXS⟩ : ∃ XS, flat4 (q :: qs).reverse = XS := ⟨_, rfl⟩
 have hown := HR.out.2.2.1
 have hnm := HR.out.nums
 have hXL : XS.length = n * 4 := by rw [← hXS, flat4_len, List.length_reverse, List.length_cons]; omega
 rw [hXS] at hown
 have HOWN := hid hown
 have HXS := hid hXS
 have HXL := hid hXL
 have hBg : B ≠ g := HR.out.apart
 have hnB : (Value.slice (some ⟨B, 0, none⟩) n cap).ownBlock ≠ some g := fun e => hBg (by injection e)
 have hglt : g < W1.heap.size := HR.out.lt.1
 have hb0l : b0 ≤ W1.heap.size := by have := HR.out.below_g; omega
 have wn : IntKind.i64.wrap (n : Int) = (n : Int) := IntWalk.i64_in _ (by omega)
 have ca1 : (W1.alloc (.cells #[.int .i64 0, .string ⟨#[]⟩, .slice none 0 0, .slice none 0 0] 26)).cell? ⟨g, 1, none⟩ = some (.slice (some ⟨B, 0, none⟩) n cap) := cells_alloc (w := W1) c1
 have ln : (n : Int) < (n : Int) + 1 := by omega
 have zn : (0 : Int) ≤ (n : Int) := by omega
 have HFIN := hid (fun (gb cb : Nat) (w4 : World) (hownN : w4.ownsRow b0 26 4 (.slice (some ⟨gb, 0, none⟩) (n + 1) cb) (n + 1) (XS ++ [.int .i64 0, .string ⟨#[]⟩, .slice none 0 0, .slice none 0 0])) (hgN : World.grownBy (W1.drew.alloc (.cells #[.int .i64 0, .string ⟨#[]⟩, .slice none 0 0, .slice none 0 0] 26)) w4 (Value.slice (some ⟨B, 0, none⟩) n cap).ownBlock) (hatN : (Value.slice (some ⟨B, 0, none⟩) n cap).ownBlock = some gb ∨ gb = (W1.drew.alloc (.cells #[.int .i64 0, .string ⟨#[]⟩, .slice none 0 0, .slice none 0 0] 26)).heap.size) =>
  have hb9 : Below W1.drew.heap.size W1.drew (W1.drew.alloc (.cells #[.int .i64 0, .string ⟨#[]⟩, .slice none 0 0, .slice none 0 0] 26)) := (Below.refl _ _).alloc (Nat.le_refl _) _
  have hk9 : gb = B ∨ gb = (W1.drew.alloc (.cells #[.int .i64 0, .string ⟨#[]⟩, .slice none 0 0, .slice none 0 0] 26)).heap.size := hatN.imp (fun e => by injection e with e; exact e.symm) fun e => e
  And.intro (HR.out.push (k := 2) hb9 hownN (by rw [HXS.out]) hgN hk9)
   (HR.out.push_below HB.out hb9 hgN (hownN.lt gb rfl).1 (.int .i64 2) (.string ⟨#[]⟩) (.slice none 0 0) (.slice none 0 0) (.slice (some ⟨gb, 0, none⟩) (n + 1) cb) (n * 4) 1))
 clear hown hXS hXL hnm
 go_upto_region 6 with fail
 go_region_law (first
  | (refine step_append_lies _ rfl (.tmp 13) (.tmp 17) 24 rfl b0 26 j0 _ 4 72 Tryz.underlying24 hj0 hy0 hy1 hy2 rfl (by decide) (.slice (some ⟨B, 0, none⟩) n cap) n XS rfl (HOWN.out.alloc _) _ 1 1 [.int .i64 0, .string ⟨#[]⟩, .slice none 0 0, .slice none 0 0] rfl rfl (news_blk #[.int .i64 0, .string ⟨#[]⟩, .slice none 0 0, .slice none 0 0] (alloc_at _ _)) zero_one (by omega) (by unfold maxLen; omega) (by omega) (by simp; omega) _ rfl ?_
     intro gb cb w4 hownN hgN hatN hltN
     obtain ⟨⟨y0, y1, y2, y3⟩, fy0, fy1, fy2, fy3⟩ := row_cells hownN rfl HXL.out
     have hz4 : w4.cell? ⟨g, 1, none⟩ = some (.slice (some ⟨B, 0, none⟩) n cap) := cell_grown (cells_alloc c1) hgN hnB
     have hf4 : w4.frozen? ⟨g, 1, none⟩ = false := frozen_grown (frozen_alloc f1 hglt) hgN (by simp; omega) hnB
     have gB : gb ≠ g := lies_ne hatN hnB (by simp; omega)
     have Bg : g ≠ gb := fun e => gB e.symm))
 all_goals
  have HK := hid (HFIN.out gb cb w4 hownN hgN hatN)
  clear hownN hgN hatN hltN
  go_wp2
  go_ret
  refine ⟨rfl, gb, cb, w4.heap.size, ⟨.int .i64 2, .string ⟨#[]⟩, .slice none 0 0, .slice none 0 0⟩, ?_, ?_⟩
  ·first
    | with_reducible exact HK.out.1
    | (rw [set_comm4 _ Bg]; with_reducible exact HK.out.1)
  ·first
    | with_reducible exact HK.out.2
    | (rw [set_comm4 _ Bg]; with_reducible exact HK.out.2)
theorem begin_map (h : RS b0 g B m n cap w r lo q qs f S) (hs : r.size ≤ 1000000) (hn : n ≤ 1000000) (h1 : isC 91 ((r.data.toList.drop (blk r.data.toList)).headD 0) = false) (h2 : isC 123 ((r.data.toList.drop (blk r.data.toList)).headD 0) = true) (r2 : ByteArray) (hr : r2.data.toList = r.data.toList.drop (blk r.data.toList + 1)) :
  Calls Tryz.prog 149 #[.pointer (some ⟨g, 0, none⟩)] w fun e w' => e = .returned (.bool true) ∧ PushOf b0 g B m n cap w w' r2 lo q qs f S 3 := by
 obtain ⟨r', hr'⟩ : ∃ r' : ByteArray, r'.data.toList = r.data.toList.drop (blk r.data.toList) := ⟨ba (r.data.toList.drop (blk r.data.toList)), ba_data _⟩
 have HT0 := hid (take_rs h 91 (by decide) hs false h1 r' (by rw [if_neg Bool.false_ne_true]; exact hr'))
 have hs' : r'.size ≤ 1000000 := by
  have e1 : r'.data.toList.length = r'.size := rfl
  have e2 : r.data.toList.length = r.size := rfl
  rw [hr', List.length_drop] at e1
  omega
 have hb0 : blk r'.data.toList = 0 := by rw [hr']; exact blk_idem _
 have HT2 := hid (fun W (hW : RS b0 g B m n cap W r' lo q qs f S) => take_rs hW 123 (by decide) hs' true (by rw [hb0, List.drop_zero, hr']; exact h2) r2 (by rw [if_pos rfl, hb0, hr', hr, List.drop_drop]))
 clear h hs h1 h2 hr hr' hs' hb0
 obtain ⟨j0, hj0, hy0, hy1, hy2⟩ := infoN
 go_enter Tryz.func149, Tryz.ntmps149
 go_wp2_with fail
 refine HT0.out.mono ?_
 rintro e W0 ⟨rfl, hR, hB⟩
 have HB0 := hid hB
 have HT := hid (HT2.out _ hR)
 clear hR hB
 go_wp2_with fail
 refine HT.out.mono ?_
 rintro e W1 ⟨rfl, hR, hB9⟩
 have hB := HB0.out.trans hB9
 clear hB9
 have hbd := below_drew W1
 have HB := hid (hR.bb hB hbd)
 have HR := hid (hR.go hbd)
 clear hR hB hbd
 obtain ⟨⟨c0, c1⟩, f0, f1⟩ := HR.out.cells
 obtain ⟨XS, hXS⟩ : ∃ XS, flat4 (q :: qs).reverse = XS := ⟨_, rfl⟩
 have hown := HR.out.2.2.1
 have hnm := HR.out.nums
 have hXL : XS.length = n * 4 := by rw [← hXS, flat4_len, List.length_reverse, List.length_cons]; omega
 rw [hXS] at hown
 have HOWN := hid hown
 have HXS := hid hXS
 have HXL := hid hXL
 have hBg : B ≠ g := HR.out.apart
 have hnB : (Value.slice (some ⟨B, 0, none⟩) n cap).ownBlock ≠ some g := fun e => hBg (by injection e)
 have hglt : g < W1.heap.size := HR.out.lt.1
 have hb0l : b0 ≤ W1.heap.size := by have := HR.out.below_g; omega
 have wn : IntKind.i64.wrap (n : Int) = (n : Int) := IntWalk.i64_in _ (by omega)
 have ca1 : (W1.alloc (.cells #[.int .i64 0, .string ⟨#[]⟩, .slice none 0 0, .slice none 0 0] 26)).cell? ⟨g, 1, none⟩ = some (.slice (some ⟨B, 0, none⟩) n cap) := cells_alloc (w := W1) c1
 have ln : (n : Int) < (n : Int) + 1 := by omega
 have zn : (0 : Int) ≤ (n : Int) := by omega
 have HFIN := hid (fun (gb cb : Nat) (w4 : World) (hownN : w4.ownsRow b0 26 4 (.slice (some ⟨gb, 0, none⟩) (n + 1) cb) (n + 1) (XS ++ [.int .i64 0, .string ⟨#[]⟩, .slice none 0 0, .slice none 0 0])) (hgN : World.grownBy (W1.drew.alloc (.cells #[.int .i64 0, .string ⟨#[]⟩, .slice none 0 0, .slice none 0 0] 26)) w4 (Value.slice (some ⟨B, 0, none⟩) n cap).ownBlock) (hatN : (Value.slice (some ⟨B, 0, none⟩) n cap).ownBlock = some gb ∨ gb = (W1.drew.alloc (.cells #[.int .i64 0, .string ⟨#[]⟩, .slice none 0 0, .slice none 0 0] 26)).heap.size) =>
  have hb9 : Below W1.drew.heap.size W1.drew (W1.drew.alloc (.cells #[.int .i64 0, .string ⟨#[]⟩, .slice none 0 0, .slice none 0 0] 26)) := (Below.refl _ _).alloc (Nat.le_refl _) _
  have hk9 : gb = B ∨ gb = (W1.drew.alloc (.cells #[.int .i64 0, .string ⟨#[]⟩, .slice none 0 0, .slice none 0 0] 26)).heap.size := hatN.imp (fun e => by injection e with e; exact e.symm) fun e => e
  And.intro (HR.out.push (k := 3) hb9 hownN (by rw [HXS.out]) hgN hk9)
   (HR.out.push_below HB.out hb9 hgN (hownN.lt gb rfl).1 (.int .i64 3) (.string ⟨#[]⟩) (.slice none 0 0) (.slice none 0 0) (.slice (some ⟨gb, 0, none⟩) (n + 1) cb) (n * 4) 1))
 clear hown hXS hXL hnm
 go_upto_region 6 with fail
 go_region_law (first
  | (refine step_append_lies _ rfl (.tmp 13) (.tmp 17) 24 rfl b0 26 j0 _ 4 72 Tryz.underlying24 hj0 hy0 hy1 hy2 rfl (by decide) (.slice (some ⟨B, 0, none⟩) n cap) n XS rfl (HOWN.out.alloc _) _ 1 1 [.int .i64 0, .string ⟨#[]⟩, .slice none 0 0, .slice none 0 0] rfl rfl (news_blk #[.int .i64 0, .string ⟨#[]⟩, .slice none 0 0, .slice none 0 0] (alloc_at _ _)) zero_one (by omega) (by unfold maxLen; omega) (by omega) (by simp; omega) _ rfl ?_
     intro gb cb w4 hownN hgN hatN hltN
     obtain ⟨⟨y0, y1, y2, y3⟩, fy0, fy1, fy2, fy3⟩ := row_cells hownN rfl HXL.out
     have hz4 : w4.cell? ⟨g, 1, none⟩ = some (.slice (some ⟨B, 0, none⟩) n cap) := cell_grown (cells_alloc c1) hgN hnB
     have hf4 : w4.frozen? ⟨g, 1, none⟩ = false := frozen_grown (frozen_alloc f1 hglt) hgN (by simp; omega) hnB
     have gB : gb ≠ g := lies_ne hatN hnB (by simp; omega)
     have Bg : g ≠ gb := fun e => gB e.symm))
 all_goals
  have HK := hid (HFIN.out gb cb w4 hownN hgN hatN)
  clear hownN hgN hatN hltN
  go_wp2
  go_ret
  refine ⟨rfl, gb, cb, w4.heap.size, ⟨.int .i64 3, .string ⟨#[]⟩, .slice none 0 0, .slice none 0 0⟩, ?_, ?_⟩
  ·first
    | with_reducible exact HK.out.1
    | (rw [set_comm4 _ Bg]; with_reducible exact HK.out.1)
  ·first
    | with_reducible exact HK.out.2
    | (rw [set_comm4 _ Bg]; with_reducible exact HK.out.2)
end
end
section
open Go.RowKit Go.Sort
open Nw N8 Q6 F9 Go.ChangeShapes Go.WideShapes
section
variable {b0 g N : Nat} {w : World} {r : ByteArray} {f : Fr} {S : List Fr} {P : Option Nd}
theorem scl_kind {l : L8} {d : Nd} (h : sclS true l = some d) : d = nul ∨ ∃ x, d = txt x := by
 rw [sclS_true] at h
 by_cases h1 : bad3 l = true
 ·rw [if_pos h1] at h
  injection h with h
  exact .inl h.symm
 ·rw [if_neg h1] at h
  by_cases h2 : (isQ (l.headD 0) && decide ((scnP l).map (·.2) = some l.length)) = true
  ·rw [if_pos h2] at h
   cases hp : scnP l with
   | none => rw [hp] at h; cases h
   | some p => rw [hp] at h; injection h with h; exact .inr ⟨_, h.symm⟩
  ·rw [if_neg h2] at h
   by_cases h3 : rowB l = true
   ·rw [if_pos h3] at h
    injection h with h; exact .inr ⟨_, h.symm⟩
   ·rw [if_neg h3] at h; cases h
theorem size_le {φ : Fr → List Fr → L8 → Option Nd} {M : Nat} (h : Hld φ N M f S r.data.toList P) (hN : N ≤ 900000) : r.size ≤ 1000000 ∧ f.ks.length ≤ 1000000 ∧ S.length ≤ 900000 := by
 have e : r.data.toList.length = r.size := rfl
 have h1 := h.2.2.1
 omega
theorem readKey_st (h : ST elm b0 g N N P w r f S) (hN : N ≤ 900000) :
  Calls Tryz.prog 148 #[.pointer (some ⟨g, 0, none⟩)] w fun e w' => (e = .returned (.bool false) ∧ P = none ∧ Below b0 w w') ∨
   (e = .returned (.bool true) ∧ Below b0 w w' ∧ ∃ r' f', ST val b0 g N N P w' r' f' S ∧ r'.size ≤ r.size) := by
 obtain ⟨B, m, n, cap, lo, q, qs, hR, hH⟩ := h
 obtain ⟨hs, hkl, -⟩ := size_le hH hN
 by_cases hk : f.k = 3
 ·obtain ⟨l, hl⟩ : ∃ l, r.data.toList.drop (blk r.data.toList) = l := ⟨_, rfl⟩
  cases hP : sclS true (frm l) with
  | none =>
   refine (readKey_none hR hk hs l hl none hP rfl).mono ?_
   rintro e w' ⟨rfl, hb⟩
   exact .inl ⟨rfl, hH.key_bad hk hl (fun x hx _ => by rw [hP] at hx; cases hx), hb⟩
  | some d =>
   rcases scl_kind hP with rfl | ⟨x, rfl⟩
   ·refine (readKey_null hR hk hs l hl _ hP rfl).mono ?_
    rintro e w' ⟨rfl, hb⟩
    refine .inl ⟨rfl, hH.key_bad hk hl (fun x hx _ => ?_), hb⟩
    rw [hP] at hx
    injection hx with hx
    cases hx
   ·cases hc : colon l with
    | false =>
     refine (readKey_colon hR hk hs l hl _ hP x rfl hc).mono ?_
     rintro e w' ⟨rfl, hb⟩
     exact .inl ⟨rfl, hH.key_bad hk hl (fun x _ h => by rw [hc] at h; cases h), hb⟩
    | true =>
     obtain ⟨r2, h2⟩ : ∃ r2 : ByteArray, r2.data.toList = (l.drop (tkn l)).drop (blk (l.drop (tkn l)) + 1) := ⟨ba _, ba_data _⟩
     have hg := hH.key_good hk hl hP hc h2
     refine (readKey_yes hR hk hs l hl _ hP x rfl hc hkl r2 h2).mono ?_
     rintro e w' ⟨rfl, ⟨q', hR'⟩, hb⟩
     have h3 : r2.size + 1 ≤ r.size := hg.2
     exact .inr ⟨rfl, hb, r2, f.key x, ⟨_, _, _, _, _, _, _, hR', hg.1⟩, by omega⟩
 ·refine (readKey_not hR hk).mono ?_
  rintro e w' ⟨rfl, hb⟩
  exact .inr ⟨rfl, hR.bb (Below.refl _ _) hb, r, f, ⟨_, _, _, _, _, _, _, hR.go hb, hH.nokey hk⟩, Nat.le_refl _⟩
theorem begin_st (h : ST val b0 g N N P w r f S) (hN : N ≤ 900000) :
  Calls Tryz.prog 149 #[.pointer (some ⟨g, 0, none⟩)] w fun e w' =>
   (e = .returned (.bool true) ∧ Below b0 w w' ∧ ∃ r' f', ST opn b0 g N N P w' r' f' (f :: S) ∧ r'.size + 1 ≤ r.size) ∨
   (e = .returned (.bool false) ∧ Below b0 w w' ∧ ∃ r', ST val b0 g N N P w' r' f S ∧ r'.size ≤ r.size ∧ (r'.data.toList.drop (blk r'.data.toList)).headD 0 ≠ 91 ∧ (r'.data.toList.drop (blk r'.data.toList)).headD 0 ≠ 123) := by
 obtain ⟨B, m, n, cap, lo, q, qs, hR, hH⟩ := h
 obtain ⟨hs, -, hS⟩ := size_le hH hN
 have hn : n ≤ 1000000 := by
  have := hR.nums
  omega
 obtain ⟨r2, h2⟩ : ∃ r2 : ByteArray, r2.data.toList = r.data.toList.drop (blk r.data.toList + 1) := ⟨ba _, ba_data _⟩
 obtain ⟨r3, h3⟩ : ∃ r3 : ByteArray, r3.data.toList = r.data.toList.drop (blk r.data.toList) := ⟨ba _, ba_data _⟩
 by_cases h91 : (r.data.toList.drop (blk r.data.toList)).headD 0 = 91
 ·have ho := hH.open_any (k := 2) (.inl rfl) (if_pos rfl).symm h91 h2
  refine (begin_seq hR hs hn (isC_iff.2 h91) r2 h2).mono ?_
  rintro e w' ⟨rfl, B', cap', lo', q', hR', hb⟩
  exact .inl ⟨rfl, hb, r2, _, ⟨_, _, _, _, _, _, _, hR', ho.1⟩, ho.2⟩
 ·have e91 : isC 91 ((r.data.toList.drop (blk r.data.toList)).headD 0) = false := by rw [Bool.eq_false_iff]; exact fun e => h91 (isC_iff.1 e)
  by_cases h123 : (r.data.toList.drop (blk r.data.toList)).headD 0 = 123
  ·have ho := hH.open_any (k := 3) (.inr rfl) (if_neg (by decide)).symm h123 h2
   refine (begin_map hR hs hn e91 (isC_iff.2 h123) r2 h2).mono ?_
   rintro e w' ⟨rfl, B', cap', lo', q', hR', hb⟩
   exact .inl ⟨rfl, hb, r2, _, ⟨_, _, _, _, _, _, _, hR', ho.1⟩, ho.2⟩
  ·have e123 : isC 123 ((r.data.toList.drop (blk r.data.toList)).headD 0) = false := by rw [Bool.eq_false_iff]; exact fun e => h123 (isC_iff.1 e)
   have hz : r3.data.toList.drop (blk r3.data.toList) = r.data.toList.drop (blk r.data.toList) := by rw [h3, blk_idem, List.drop_zero]
   refine (begin_no hR hs e91 e123 r3 h3).mono ?_
   rintro e w' ⟨rfl, hR', hb⟩
   refine .inr ⟨rfl, hb, r3, ⟨_, _, _, _, _, _, _, hR', hH.val_skip h3⟩, ?_, by rw [hz]; exact h91, by rw [hz]; exact h123⟩
   have e1 : r.data.toList.length = r.size := rfl
   have e2 : r3.data.toList.length = r3.size := rfl
   rw [h3, List.length_drop] at e2
   omega
theorem isEnding_st {g1 : Fr} {T : List Fr} (h : ST opn b0 g N N P w r f (g1 :: T)) :
  Calls Tryz.prog 150 #[.pointer (some ⟨g, 0, none⟩)] w fun e w' => Below b0 w w' ∧ ∃ r', r'.size ≤ r.size ∧
   ((e = .returned (.bool true) ∧ ST thn b0 g N (N + 1) P w' r' f (g1 :: T)) ∨ (e = .returned (.bool false) ∧ ST elm b0 g N N P w' r' f (g1 :: T))) := by
 obtain ⟨B, m, n, cap, lo, q, qs, hR, hH⟩ := h
 obtain ⟨r3, h3⟩ : ∃ r3 : ByteArray, r3.data.toList = r.data.toList.drop (blk r.data.toList) := ⟨ba _, ba_data _⟩
 have hs3 : r3.size ≤ r.size := by
  have e1 : r.data.toList.length = r.size := rfl
  have e2 : r3.data.toList.length = r3.size := rfl
  rw [h3, List.length_drop] at e2
  omega
 have hk : f.k = 2 ∨ f.k = 3 := hH.1.1.imp (fun e => e.1) id
 by_cases hc : (r.data.toList.drop (blk r.data.toList)).headD 0 = clo f.k
 ·refine (isEnding_rs hR hk r3 h3 true (by rw [h3]; exact isC_iff.2 hc)).mono ?_
  rintro e w' ⟨rfl, hR', hb⟩
  exact ⟨hb, r3, hs3, .inl ⟨rfl, _, _, _, _, _, _, _, hR', hH.opn_yes hc h3⟩⟩
 ·refine (isEnding_rs hR hk r3 h3 false (by rw [h3, Bool.eq_false_iff]; exact fun e => hc (isC_iff.1 e))).mono ?_
  rintro e w' ⟨rfl, hR', hb⟩
  exact ⟨hb, r3, hs3, .inr ⟨rfl, _, _, _, _, _, _, _, hR', hH.opn_no hc h3⟩⟩
theorem readScalar_st (h : ST val b0 g N N P w r f S) (hN : N ≤ 900000) (h91 : (r.data.toList.drop (blk r.data.toList)).headD 0 ≠ 91) (h123 : (r.data.toList.drop (blk r.data.toList)).headD 0 ≠ 123) :
  Calls Tryz.prog 151 #[.pointer (some ⟨g, 0, none⟩)] w fun e w' => (e = .returned (.bool false) ∧ P = none ∧ Below b0 w w') ∨
   (e = .returned (.bool true) ∧ Below b0 w w' ∧ ∃ r' f', ST thn b0 g N (N + 1) P w' r' f' S ∧ f'.ds ≠ [] ∧ r'.size ≤ r.size) := by
 obtain ⟨B, m, n, cap, lo, q, qs, hR, hH⟩ := h
 obtain ⟨hs, -, -⟩ := size_le hH hN
 have hdl : f.ds.length ≤ 1000000 := by have := hH.2.2.1.1; omega
 obtain ⟨l, hl⟩ : ∃ l, r.data.toList.drop (blk r.data.toList) = l := ⟨_, rfl⟩
 rw [hl] at h91 h123
 obtain ⟨r2, h2⟩ : ∃ r2 : ByteArray, r2.data.toList = l.drop (tkn l) := ⟨ba _, ba_data _⟩
 cases hP : sclS true (frm l) with
 | none =>
  refine (readScalar_none hR hs l hl r2 h2 none hP rfl).mono ?_
  rintro e w' ⟨rfl, hb⟩
  exact .inl ⟨rfl, hH.scl_none hl h91 h123 hP, hb⟩
 | some d =>
  by_cases hf : frm l = []
  ·by_cases hk : f.k = 2
   ·refine (readScalar_seq hR hs l hl r2 h2 _ hP rfl hf hk).mono ?_
    rintro e w' ⟨rfl, hb⟩
    exact .inl ⟨rfl, hH.scl_seq hl h91 h123 hf hk, hb⟩
   ·have hg := hH.scl_some hl h91 h123 hP (.inr hk) h2
    refine (readScalar_nil hR hs l hl r2 h2 _ hP d rfl hdl hf hk).mono ?_
    rintro e w' ⟨rfl, ⟨q', hR'⟩, hb⟩
    exact .inr ⟨rfl, hb, r2, f.add d, ⟨_, _, _, _, _, _, _, hR', hg.1⟩, add_ne _ _, hg.2⟩
  ·have hg := hH.scl_some hl h91 h123 hP (.inl hf) h2
   refine (readScalar_txt hR hs l hl r2 h2 _ hP d rfl hdl hf).mono ?_
   rintro e w' ⟨rfl, ⟨q', hR'⟩, hb⟩
   exact .inr ⟨rfl, hb, r2, f.add d, ⟨_, _, _, _, _, _, _, hR', hg.1⟩, add_ne _ _, hg.2⟩
def Rdy (b0 g : Nat) (P : Option Nd) (w : World) : Prop := ∃ B m n cap lo r q qs f, RS b0 g B m n cap w r lo q qs f [] ∧ ∃ d ds, f.ds = d :: ds ∧ P = some d
theorem isDone_st (h : ST thn b0 g N (N + 1) P w r f []) (hf : f.ds ≠ []) :
  Calls Tryz.prog 153 #[.pointer (some ⟨g, 0, none⟩)] w fun e w' => Below b0 w w' ∧ ((e = .returned (.bool true) ∧ Rdy b0 g P w') ∨ (e = .returned (.bool false) ∧ P = none)) := by
 obtain ⟨B, m, n, cap, lo, q, qs, hR, hH⟩ := h
 have hd := hH.done
 by_cases hc : r.data.toList.length = blk r.data.toList
 ·rw [if_pos hc] at hd
  refine (isDone_rs hR true (decide_eq_true hc)).mono ?_
  rintro e w' ⟨rfl, ⟨r', hR'⟩, hb⟩
  refine ⟨hb, .inl ⟨rfl, _, _, _, _, _, _, _, _, _, hR', ?_⟩⟩
  cases hfd : f.ds with
  | nil => exact absurd hfd hf
  | cons d ds => rw [hfd] at hd; exact ⟨d, ds, rfl, hd⟩
 ·rw [if_neg hc] at hd
  refine (isDone_rs hR false (decide_eq_false hc)).mono ?_
  rintro e w' ⟨rfl, ⟨r', hR'⟩, hb⟩
  exact ⟨hb, .inr ⟨rfl, hd⟩⟩
theorem take_st {g1 : Fr} {T : List Fr} (h : ST thn b0 g N (N + 1) P w r f (g1 :: T)) (hN : N ≤ 900000) (hn : (r.data.toList.drop (blk r.data.toList)).headD 0 ≠ clo f.k ∨ twi f.ks = true) :
  Calls Tryz.prog 154 #[.pointer (some ⟨g, 0, none⟩), .string ⟨#[44]⟩] w fun e w' => Below b0 w w' ∧
   ((e = .returned (.bool true) ∧ ∃ r', ST elm b0 g N N P w' r' f (g1 :: T) ∧ r'.size + 1 ≤ r.size) ∨ (e = .returned (.bool false) ∧ P = none)) := by
 obtain ⟨B, m, n, cap, lo, q, qs, hR, hH⟩ := h
 obtain ⟨hs, -, -⟩ := size_le hH hN
 by_cases hc : (r.data.toList.drop (blk r.data.toList)).headD 0 = 44
 ·obtain ⟨r2, h2⟩ : ∃ r2 : ByteArray, r2.data.toList = r.data.toList.drop (blk r.data.toList + 1) := ⟨ba _, ba_data _⟩
  have hg := hH.comma hn hc h2
  refine (take_rs hR 44 (by decide) hs true (isC_iff.2 hc) r2 (by rw [if_pos rfl]; exact h2)).mono ?_
  rintro e w' ⟨rfl, hR', hb⟩
  exact ⟨hb, .inl ⟨rfl, r2, ⟨_, _, _, _, _, _, _, hR', hg.1⟩, hg.2⟩⟩
 ·obtain ⟨r2, h2⟩ : ∃ r2 : ByteArray, r2.data.toList = r.data.toList.drop (blk r.data.toList) := ⟨ba _, ba_data _⟩
  refine (take_rs hR 44 (by decide) hs false (by rw [Bool.eq_false_iff]; exact fun e => hc (isC_iff.1 e)) r2 (by rw [if_neg Bool.false_ne_true]; exact h2)).mono ?_
  rintro e w' ⟨rfl, hR', hb⟩
  exact ⟨hb, .inr ⟨rfl, hH.nocomma hn hc⟩⟩
end
end
section
open Go.RowKit Go.Sort
open Nw N8 Q6 F9 Go.ChangeShapes Go.WideShapes
theorem wp_scope_at {P : Program} {a : Act} {w : World} {Q : Exit → Act → World → Prop} {T : Code} (l : Nat) (J : Act → World → Prop) (μ : Act → World → Nat) (h0 : J a w)
  (pass : ∀ a w, J a w → ∀ K : Act → World → Prop, (∀ a' w', J a' w' → μ a' w' < μ a w → K a' w') → T.wp P (Exit.jump l K Q) a w) :
  (Code.scope (.seq (.label l) T)).wp P Q a w := by
 refine wp_scope_jumps (rest := .seq .skip T) l J μ ?_ ?_ ?_
 ·simp [findLabel]
 ·exact wp_seq (wp_label (pass a w h0 J fun a' w' h _ => h))
 ·intro a w hJ
  exact wp_seq (wp_skip (pass a w hJ _ fun a' w' h1 h2 => ⟨h1, h2⟩))
def RJ (b0 g N : Nat) (P : Option Nd) (w0 : World) (a : Act) (w : World) : Prop :=
 ∃ (r : ByteArray) (f : Fr) (S : List Fr) (u2 u3 u4 u5 u6 u7 u8 u9 u10 u11 u12 u13 u14 u15 u16 u17 u18 u19 u20 u21 u22 u23 u24 u25 : Value), a = { tmps := #[.pointer (some ⟨g, 0, none⟩), undef, u2, u3, u4, u5, u6, u7, u8, u9, u10, u11, u12, u13, u14, u15, u16, u17, u18, u19, u20, u21, u22, u23, u24, u25], defers := [] } ∧ ST elm b0 g N N P w r f S ∧ Below b0 w0 w
def Rm (g : Nat) (_ : Act) (w : World) : Nat := match w.cell? ⟨g, 0, none⟩ with | some (.string s) => s.size | _ => 0
theorem rm_of {φ : Fr → List Fr → L8 → Option Nd} {b0 g N M : Nat} {P : Option Nd} {w : World} {r : ByteArray} {f : Fr} {S : List Fr} (h : ST φ b0 g N M P w r f S) (a : Act) : Rm g a w = r.size := by
 obtain ⟨B, m, n, cap, lo, q, qs, hR, hH⟩ := h
 unfold Rm
 rw [hR.cells.1.1]
theorem readAll_st {b0 g N : Nat} {w : World} {r : ByteArray} {f : Fr} {S : List Fr} {P : Option Nd} (h : ST elm b0 g N N P w r f S) (hN : N ≤ 900000) :
  Calls Tryz.prog 133 #[.pointer (some ⟨g, 0, none⟩)] w fun e w' => Below b0 w w' ∧ ((e = .returned (.bool true) ∧ Rdy b0 g P w') ∨ (e = .returned (.bool false) ∧ P = none)) := by
 have HST0 := hid h
 clear h
 go_enter Tryz.func133, Tryz.ntmps133
 go_wp2
 refine wp_scope_at 0 (RJ b0 g N P w) (Rm g) ?first ?pass
 case first => exact ⟨r, f, S, _, _, _, _, _, _, _, _, _, _, _, _, _, _, _, _, _, _, _, _, _, _, _, _, rfl, HST0.out, Below.refl _ _⟩
 case pass =>
  clear HST0
  intro a wr hJ K hK
  obtain ⟨r1, f1, S1, u2, u3, u4, u5, u6, u7, u8, u9, u10, u11, u12, u13, u14, u15, u16, u17, u18, u19, u20, u21, u22, u23, u24, u25, rfl, hst, hbel⟩ := hJ
  have HB := hid hbel
  have HK := hid hK
  have HM := hid (fun a => rm_of hst a)
  have HKEY := hid (readKey_st hst hN)
  clear hbel hK hst
  go_wp2_with fail
  refine HKEY.out.mono ?_
  rintro e W1 (⟨rfl, hP, hb⟩ | ⟨rfl, hb, r2, f2, hst, hs2⟩)
  ·have HP := hid hP
   have HB1 := hid (HB.out.trans hb)
   clear hP hb HB HKEY
   go_wp2
   try simp only [Exit.jump]
   go_ret
   exact ⟨HB1.out, .inr ⟨rfl, HP.out⟩⟩
  have HB1 := hid (HB.out.trans hb)
  have HBEG := hid (begin_st hst hN)
  clear hb hst HB HKEY
  go_wp2_with fail
  refine HBEG.out.mono ?_
  rintro e W2 (⟨rfl, hb, r3, f3, hst, hs3⟩ | ⟨rfl, hb, r3, hst, hs3, h91, h123⟩)
  ·have HB2 := hid (HB1.out.trans hb)
   have HEND := hid (isEnding_st hst)
   clear hb hst HB1 HBEG
   go_wp2_with fail
   refine HEND.out.mono ?_
   rintro e W3 ⟨hb, r4, hs4, (⟨rfl, hst⟩ | ⟨rfl, hst⟩)⟩
   ·have HB3 := hid (HB2.out.trans hb)
    have HALL := hid (endAll_st hst hN (fun e => by cases e))
    have hs34 : r4.size ≤ r1.size := by omega
    clear hb hst HB2 HEND
    go_wp2_with fail
    refine HALL.out.mono ?_
    rintro e W4 ⟨rfl, hb, r5, f5, S5, hst, hful, hs5, hstop⟩
    have HB4 := hid (HB3.out.trans hb)
    clear hb HB3 HALL
    obtain ⟨B, m, n, cap, lo, q, qs, hR, hH⟩ := id hst
    have c1 := hR.cells.1.2
    cases S5 with
    | nil =>
     have hn1 : n = 1 := by
      have h1 := hR.nums
      have h2 : ([] : List Fr).length = 0 := rfl
      omega
     have HD := hid (isDone_st hst (hful rfl))
     subst hn1
     clear hR hH hst hful hstop
     go_wp2_with fail
     refine HD.out.mono ?_
     rintro e W5 ⟨hb, (⟨rfl, hr⟩ | ⟨rfl, hP⟩)⟩
     ·have HR := hid hr
      have HB5 := hid (HB4.out.trans hb)
      clear hr hb HD HB4 c1
      go_wp2
      try simp only [Exit.jump]
      go_ret
      exact ⟨HB5.out, .inl ⟨rfl, HR.out⟩⟩
     ·have HP := hid hP
      have HB5 := hid (HB4.out.trans hb)
      clear hP hb HD HB4 c1
      go_wp2
      try simp only [Exit.jump]
      go_ret
      exact ⟨HB5.out, .inr ⟨rfl, HP.out⟩⟩
    | cons g5 T5 =>
     have hn1 : ((n : Int) == 1) = false := by
      have h1 := hR.nums
      rw [List.length_cons] at h1
      exact beq_eq_false_iff_ne.2 (by omega)
     have HT := hid (take_st hst hN (hstop (fun e => by cases e)))
     clear hR hH hst hful hstop
     go_wp2_with fail
     refine HT.out.mono ?_
     rintro e W5 ⟨hb, (⟨rfl, r6, hst, hs6⟩ | ⟨rfl, hP⟩)⟩
     ·have HST5 := hid hst
      have HB5 := hid (HB4.out.trans hb)
      clear hst hb HT HB4 c1
      go_wp2
      go_step3
      refine ⟨rfl, HK.out _ _ ⟨r6, f5, _, _, _, _, _, _, _, _, _, _, _, _, _, _, _, _, _, _, _, _, _, _, _, _, _, rfl, HST5.out, HB5.out⟩ ?_⟩
      rw [rm_of HST5.out, HM.out]
      omega
     ·have HP := hid hP
      have HB5 := hid (HB4.out.trans hb)
      clear hP hb HT HB4 c1
      go_wp2
      try simp only [Exit.jump]
      go_ret
      exact ⟨HB5.out, .inr ⟨rfl, HP.out⟩⟩
   ·have HB3 := hid (HB2.out.trans hb)
    have HST3 := hid hst
    clear hb hst HB2 HEND
    go_wp2
    go_step3
    refine ⟨rfl, HK.out _ _ ⟨r4, f3, _, _, _, _, _, _, _, _, _, _, _, _, _, _, _, _, _, _, _, _, _, _, _, _, _, rfl, HST3.out, HB3.out⟩ ?_⟩
    rw [rm_of HST3.out, HM.out]
    omega
  ·have HB2 := hid (HB1.out.trans hb)
   have HSC := hid (readScalar_st hst hN h91 h123)
   clear hb hst HB1 HBEG h91 h123
   go_wp2_with fail
   refine HSC.out.mono ?_
   rintro e W3 (⟨rfl, hP, hb⟩ | ⟨rfl, hb, r4, f4, hst, hne, hs4⟩)
   ·have HP := hid hP
    have HB3 := hid (HB2.out.trans hb)
    clear hP hb HB2 HSC
    go_wp2
    try simp only [Exit.jump]
    go_ret
    exact ⟨HB3.out, .inr ⟨rfl, HP.out⟩⟩
   ·have HB3 := hid (HB2.out.trans hb)
    have HALL := hid (endAll_st hst hN (fun _ => hne))
    have hs34 : r4.size ≤ r1.size := by omega
    clear hb hst HB2 HSC hne
    go_wp2_with fail
    refine HALL.out.mono ?_
    rintro e W4 ⟨rfl, hb, r5, f5, S5, hst, hful, hs5, hstop⟩
    have HB4 := hid (HB3.out.trans hb)
    clear hb HB3 HALL
    obtain ⟨B, m, n, cap, lo, q, qs, hR, hH⟩ := id hst
    have c1 := hR.cells.1.2
    cases S5 with
    | nil =>
     have hn1 : n = 1 := by
      have h1 := hR.nums
      have h2 : ([] : List Fr).length = 0 := rfl
      omega
     have HD := hid (isDone_st hst (hful rfl))
     subst hn1
     clear hR hH hst hful hstop
     go_wp2_with fail
     refine HD.out.mono ?_
     rintro e W5 ⟨hb, (⟨rfl, hr⟩ | ⟨rfl, hP⟩)⟩
     ·have HR := hid hr
      have HB5 := hid (HB4.out.trans hb)
      clear hr hb HD HB4 c1
      go_wp2
      try simp only [Exit.jump]
      go_ret
      exact ⟨HB5.out, .inl ⟨rfl, HR.out⟩⟩
     ·have HP := hid hP
      have HB5 := hid (HB4.out.trans hb)
      clear hP hb HD HB4 c1
      go_wp2
      try simp only [Exit.jump]
      go_ret
      exact ⟨HB5.out, .inr ⟨rfl, HP.out⟩⟩
    | cons g5 T5 =>
     have hn1 : ((n : Int) == 1) = false := by
      have h1 := hR.nums
      rw [List.length_cons] at h1
      exact beq_eq_false_iff_ne.2 (by omega)
     have HT := hid (take_st hst hN (hstop (fun e => by cases e)))
     clear hR hH hst hful hstop
     go_wp2_with fail
     refine HT.out.mono ?_
     rintro e W5 ⟨hb, (⟨rfl, r6, hst, hs6⟩ | ⟨rfl, hP⟩)⟩
     ·have HST5 := hid hst
      have HB5 := hid (HB4.out.trans hb)
      clear hst hb HT HB4 c1
      go_wp2
      go_step3
      refine ⟨rfl, HK.out _ _ ⟨r6, f5, _, _, _, _, _, _, _, _, _, _, _, _, _, _, _, _, _, _, _, _, _, _, _, _, _, rfl, HST5.out, HB5.out⟩ ?_⟩
      rw [rm_of HST5.out, HM.out]
      omega
     ·have HP := hid hP
      have HB5 := hid (HB4.out.trans hb)
      clear hP hb HT HB4 c1
      go_wp2
      try simp only [Exit.jump]
      go_ret
      exact ⟨HB5.out, .inr ⟨rfl, HP.out⟩⟩
end
section
open Go.RowKit Go.Sort
open Nw N8 Q6 F9 Go.ChangeShapes Go.WideShapes
def ParseC : Prop := ∀ (s : ByteArray) (w : World), s.size ≤ 500000 → ∀ (P : Option Nd), parP s.data.toList = P →
  Calls Tryz.prog 115 #[.string s] w fun e w' => ∃ (k : Int) (t : ByteArray) (a : Option Addr) (n c : Nat) (A : Option Addr) (m q : Nat),
   e = .returned (.tuple #[.agg #[.int .i64 k, .string t, .slice a n c, .slice A m q], .int .i64 (parE P)]) ∧ NdC (fun b => w.heap.size ≤ b ∧ b < w'.heap.size) w' (parD P) (.int .i64 k) (.string t) (.slice a n c) (.slice A m q) ∧ Below w.heap.size w w'
theorem make_one (W : World) : (Instr.makeSlice 24 (.int .i64 1) (.int .i64 1)).run Tryz.prog W = .ok (.slice (some ⟨W.heap.size, 0, none⟩) 1 1) (W.alloc (.cells #[.int .i64 0, .string ⟨#[]⟩, .slice none 0 0, .slice none 0 0] 26)) := by kernel_rfl
theorem start_st (s : ByteArray) (w : World) (P : Option Nd) (hP : parP s.data.toList = P) :
  ST elm (w.heap.size + 1) (w.heap.size + 1 + 1) s.size s.size P (((w.alloc (.cells #[.int .i64 0, .string ⟨#[]⟩, .slice none 0 0, .slice none 0 0] 26)).alloc (.cells #[.int .i64 0, .string ⟨#[]⟩, .slice none 0 0, .slice none 0 0] 26)).alloc (.cells #[.string s, .slice (some ⟨w.heap.size + 1, 0, none⟩) 1 1] 127)) s ⟨0, [], []⟩ [] := by
 subst hP
 obtain ⟨W1, h1⟩ : ∃ W1, w.alloc (.cells #[.int .i64 0, .string ⟨#[]⟩, .slice none 0 0, .slice none 0 0] 26) = W1 := ⟨_, rfl⟩
 have s1 : W1.heap.size = w.heap.size + 1 := by rw [← h1]; simp
 rw [h1]
 obtain ⟨W2, h2⟩ : ∃ W2, W1.alloc (.cells #[.int .i64 0, .string ⟨#[]⟩, .slice none 0 0, .slice none 0 0] 26) = W2 := ⟨_, rfl⟩
 have s2 : W2.heap.size = w.heap.size + 1 + 1 := by rw [← h2]; simp [s1]
 have b2 : W2.heap[w.heap.size + 1]? = some (.cells #[.int .i64 0, .string ⟨#[]⟩, .slice none 0 0, .slice none 0 0] 26 (0, 0)) := by
  rw [← h2, ← s1]; exact Row4.make W1 _ _ _ _ _
 rw [h2]
 obtain ⟨W3, h3⟩ : ∃ W3, W2.alloc (.cells #[.string s, .slice (some ⟨w.heap.size + 1, 0, none⟩) 1 1] 127) = W3 := ⟨_, rfl⟩
 have s3 : W3.heap.size = w.heap.size + 1 + 1 + 1 := by rw [← h3]; simp [s2]
 have b3 : W3.heap[w.heap.size + 1]? = some (.cells #[.int .i64 0, .string ⟨#[]⟩, .slice none 0 0, .slice none 0 0] 26 (0, 0)) := by
  rw [← h3]; exact (Below.heap_alloc W2 _ _ (by omega)).trans b2
 have c3 : W3.heap[w.heap.size + 1 + 1]? = some (.cells #[.string s, .slice (some ⟨w.heap.size + 1, 0, none⟩) 1 1] 127 (0, 0)) := by
  rw [← h3, ← s2]
  show (W2.heap.push _)[W2.heap.size]? = _
  simp
 rw [h3]
 refine ⟨w.heap.size + 1, 0, 1, 1, w.heap.size + 1 + 1 + 1, ⟨.int .i64 0, .string ⟨#[]⟩, .slice none 0 0, .slice none 0 0⟩, [], ⟨⟨by omega, rfl, rfl, by omega⟩, c3, ⟨rfl, .inr ⟨_, _, _, rfl, Nat.le_refl _, b3, Nat.le_refl _, by unfold maxLen; omega, rfl, rfl⟩⟩, ?_, Nat.le_refl _⟩, hld_start _⟩
 exact ⟨⟨rfl, rfl⟩, World.ownsRow_nil _ _ _ _, ⟨[], World.ownsRow_nil _ _ _ _, rfl, fun j hj => absurd hj (Nat.not_lt_zero _)⟩, fun b hb' => (by cases hb'), fun b hb' => (by cases hb')⟩
theorem rdy_at {b0 g : Nat} {P : Option Nd} {W : World} (h : Rdy b0 g P W) : ∃ (B c1 : Nat) (A : Option Addr) (n c b o : Nat) (k : Int) (t : ByteArray) (a2 : Option Addr) (n2 c2 : Nat) (A2 : Option Addr) (m2 q2 : Nat) (d : Nd),
  W.cell? ⟨g, 1, none⟩ = some (.slice (some ⟨B, 0, none⟩) 1 c1) ∧ W.cell? ⟨B, 3, none⟩ = some (.slice A n c) ∧ 0 < n ∧ A = some ⟨b, o, none⟩ ∧ W.cell? ⟨b, o, none⟩ = some (.int .i64 k) ∧ W.cell? ⟨b, o + 1, none⟩ = some (.string t) ∧
   W.cell? ⟨b, o + 2, none⟩ = some (.slice a2 n2 c2) ∧ W.cell? ⟨b, o + 3, none⟩ = some (.slice A2 m2 q2) ∧ NdC (fun b => g < b ∧ b < W.heap.size) W d (.int .i64 k) (.string t) (.slice a2 n2 c2) (.slice A2 m2 q2) ∧ P = some d := by
 obtain ⟨B, m, n, cap, lo, r, q, qs, f, hR, d, ds, hds, hP⟩ := h
 have hn := hR.nums
 have h0 : ([] : List Fr).length = 0 := rfl
 obtain rfl : m = 0 := by omega
 obtain rfl : n = 1 := by omega
 have c1 := hR.cells.1.2
 have t3 := hR.top.1.2.2.2
 rw [Nat.zero_mul, Nat.zero_add] at t3
 obtain ⟨-, A, c, hqd⟩ := hR.shapes
 obtain ⟨-, -, ⟨ps, hko⟩, -, h6⟩ := hR.2.2.2.1
 have hlo := hR.lt.2.2.2
 have hk : KdS (fun b => g < b ∧ b < W.heap.size) W q.d f.ds := hko.kdS (fun b hb => ⟨by have := hb.1; omega, hb.2.1⟩) fun b hb => ⟨by have := (hko.1.lt b hb).1; omega, (h6 b hb).1⟩
 rw [hqd] at hk t3
 obtain ⟨b, o, e0, e1, e2, e3, hA, -, y0, y1, y2, y3, hN⟩ := hk.kid 0 (by rw [hds]; exact Nat.succ_pos _)
 obtain ⟨k, t, a2, n2, c2, A2, m2, q2, rfl, rfl, rfl, rfl⟩ := hN.cellsOk
 rw [Nat.zero_mul, Nat.add_zero] at y0 y1 y2 y3
 have hd0 : f.ds[0]'(by rw [hds]; exact Nat.succ_pos _) = d := by simp [hds]
 rw [hd0] at hN
 exact ⟨B, cap, A, f.ds.length, c, b, o, k, t, a2, n2, c2, A2, m2, q2, d, c1, t3, by rw [hds]; exact Nat.succ_pos _, hA, y0, y1, y2, y3, hN, hP⟩
theorem parse_c : ParseC := by
 intro s w hs P hP
 have hmk := make_one
 have hst := start_st s w P hP
 have hfine : ∀ d, P = some d → Fine d := fun d hd => (par_got (by rw [hP, hd])).1
 have HRA := hid (readAll_st hst (by omega))
 have HBX := hid (Row4.make w 26 (.int .i64 0) (.string ⟨#[]⟩) (.slice none 0 0) (.slice none 0 0))
 have HB0 := hid ((((Below.refl w.heap.size w).alloc (Nat.le_refl _) (.cells #[.int .i64 0, .string ⟨#[]⟩, .slice none 0 0, .slice none 0 0] 26)).alloc (by simp) (.cells #[.int .i64 0, .string ⟨#[]⟩, .slice none 0 0, .slice none 0 0] 26)).alloc (by simp; omega) (.cells #[.string s, .slice (some ⟨w.heap.size + 1, 0, none⟩) 1 1] 127))
 have HB1 := hid ((HBX.out.alloc (.cells #[.int .i64 0, .string ⟨#[]⟩, .slice none 0 0, .slice none 0 0] 26)).alloc (.cells #[.string s, .slice (some ⟨w.heap.size + 1, 0, none⟩) 1 1] 127))
 have HFINE := hid hfine
 clear hs hP hst hfine HBX
 go_enter Tryz.func115, Tryz.ntmps115
 go_upto_region 2 with fail
 generalize ((w.alloc (.cells #[.int .i64 0, .string ⟨#[]⟩, .slice none 0 0, .slice none 0 0] 26)).alloc (.cells #[.int .i64 0, .string ⟨#[]⟩, .slice none 0 0, .slice none 0 0] 26)).alloc (.cells #[.string s, .slice (some ⟨w.heap.size + 1, 0, none⟩) 1 1] 127) = W3 at *
 clear hmk
 go_wp2_with fail
 refine HRA.out.mono ?_
 rintro e W4 ⟨hb, (⟨rfl, hr⟩ | ⟨rfl, hP⟩)⟩
 ·have HB4 := hid (HB0.out.trans (hb.mono (by omega)))
  have HX4 := hid (HB1.out.below hb (by omega))
  obtain ⟨B, cc, A, nn, cN, b, o, k, t, a2, n2, c2, A2, m2, q2, d, g1, g3, hn0, rfl, y0, y1, y2, y3, hN, hP⟩ := rdy_at hr
  have hn0z : (0 : Int) < (nn : Int) := by omega
  have hb5 : Below W4.heap.size W4 (W4.alloc (.cells #[.int .i64 k, .string t, .slice a2 n2 c2, .slice A2 m2 q2] 26)) := (Below.refl _ _).alloc (Nat.le_refl _) _
  have hN5 : NdC (fun b => w.heap.size + 1 + 1 < b ∧ b < (W4.alloc (.cells #[.int .i64 k, .string t, .slice a2 n2 c2, .slice A2 m2 q2] 26)).heap.size) (W4.alloc (.cells #[.int .i64 k, .string t, .slice a2 n2 c2, .slice A2 m2 q2] 26)) d (.int .i64 k) (.string t) (.slice a2 n2 c2) (.slice A2 m2 q2) := NdC.keep (fun b hx => ⟨⟨hx.1, Nat.lt_of_lt_of_le hx.2 hb5.size⟩, hb5.block b hx.2⟩) _ hN
  have hNW : NdW (W4.alloc (.cells #[.int .i64 k, .string t, .slice a2 n2 c2, .slice A2 m2 q2] 26)) d (.int .i64 k) (.string t) (.slice a2 n2 c2) (.slice A2 m2 q2) := NdC.keep (fun b hx => ⟨hx.2, rfl⟩) _ hN5
  obtain ⟨ok, hok⟩ : ∃ ok, okT 2000 d = ok := ⟨_, rfl⟩
  have HRI := hid (Right_gen d (HFINE.out d hP) ok hok _ _ _ _ _ hNW)
  have HN5 := hid hN5
  have HX5 := hid (HX4.out.below hb5 HX4.out.lt)
  have HB5 := hid (HB4.out.trans (hb5.mono HB4.out.size))
  have HY5 := hid (Row4.make W4 26 (.int .i64 k) (.string t) (.slice a2 n2 c2) (.slice A2 m2 q2))
  have HP := hid hP
  have hHW : w.heap.size ≠ W4.heap.size := by have := HX4.out.lt; omega
  clear hP hb HB0 HB1 HRA HFINE hr hn0 hN hb5 hN5 hNW HX4 HB4
  go_upto_region 5 with fail
  generalize W4.alloc (.cells #[.int .i64 k, .string t, .slice a2 n2 c2, .slice A2 m2 q2] 26) = W5 at *
  generalize W4.heap.size = gx at *
  clear g1 g3 y0 y1 y2 y3
  obtain ⟨z0, z1, z2, z3⟩ := HY5.out.cells
  go_wp2_with fail
  refine HRI.out.mono ?_
  rintro e W6 ⟨rfl, hb6⟩
  have HX6 := hid (HX5.out.below hb6 HX5.out.lt)
  have HY6 := hid (HY5.out.below hb6 HY5.out.lt)
  have HB6 := hid (HB5.out.trans (hb6.mono HB5.out.size))
  have HN6 := hid (show NdC (fun b => w.heap.size < b ∧ b < W6.heap.size) W6 d (.int .i64 k) (.string t) (.slice a2 n2 c2) (.slice A2 m2 q2) from NdC.keep (fun b hx => ⟨⟨by have := hx.1; omega, Nat.lt_of_lt_of_le hx.2 hb6.size⟩, hb6.block b hx.2⟩) _ HN5.out)
  clear hb6 HX5 HY5 HB5 HN5 HRI z0 z1 z2 z3
  obtain ⟨r0, r1, r2, r3⟩ := HX6.out.cells
  obtain ⟨fr0, fr1, fr2, fr3⟩ := HX6.out.frozen
  cases ok with
  | true =>
   have HE := hid (par_yes hok)
   rw [← HP.out] at HE
   obtain ⟨z0, z1, z2, z3⟩ := HY6.out.cells
   clear hok HY6 HX6
   go_wp2
   refine bodyPost_ret (v := .tuple #[.agg #[.int .i64 k, .string t, .slice a2 n2 c2, .slice A2 m2 q2], .int .i64 0]) (by simp [results, Tryz.results115, go_sem, r0, r1, r2, r3]) rfl
    ⟨k, t, a2, n2, c2, A2, m2, q2, by rw [HE.out.1], ?_, below_p4 HB6.out (Nat.le_refl _) _ _ _ _⟩
   rw [← HE.out.2]
   exact NdC.keep (fun b hx => ⟨⟨Nat.le_of_lt hx.1, by simp [World.setCell]; exact hx.2⟩, by
    have hne : b ≠ w.heap.size := by have := hx.1; omega
    rw [set_oth _ _ _ _ hne, set_oth _ _ _ _ hne, set_oth _ _ _ _ hne, set_oth _ _ _ _ hne]⟩) _ HN6.out
  | false =>
   have HE := hid (par_no hok)
   rw [← HP.out] at HE
   clear hok HY6 HX6 HN6
   go_wp2
   refine bodyPost_ret (v := .tuple #[.agg #[.int .i64 0, .string ⟨#[]⟩, .slice none 0 0, .slice none 0 0], .int .i64 9]) (by simp [results, Tryz.results115, go_sem, r0, r1, r2, r3]) rfl
    ⟨0, ⟨#[]⟩, none, 0, 0, none, 0, 0, by rw [← HE.out.1], ?_, below_p4 HB6.out (Nat.le_refl _) _ _ _ _⟩
   rw [← HE.out.2]
   exact nd_nul _ _
 ·have HB4 := hid (HB0.out.trans (hb.mono (by omega)))
  have HX4 := hid (HB1.out.below hb (by omega))
  have HP := hid hP
  clear hP hb HB0 HB1 HRA HFINE
  obtain ⟨r0, r1, r2, r3⟩ := HX4.out.cells
  obtain ⟨fr0, fr1, fr2, fr3⟩ := HX4.out.frozen
  go_wp2
  refine bodyPost_ret (v := .tuple #[.agg #[.int .i64 0, .string ⟨#[]⟩, .slice none 0 0, .slice none 0 0], .int .i64 3]) (by simp [results, Tryz.results115, go_sem, r0, r1, r2, r3]) rfl
   ⟨0, ⟨#[]⟩, none, 0, 0, none, 0, 0, by rw [HP.out]; rfl, ?_, below_p4 HB4.out (Nat.le_refl _) _ _ _ _⟩
  rw [HP.out]
  exact nd_nul _ _
end
end Go.Proofs.YtecglpocmhkkiaaGreatDoor
