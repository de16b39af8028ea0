/- FloRd5, FloRd7 -/
import Derived.BigRegion
import Derived.Deep.AppendLies
import Derived.Deep.RegionLaw
import Derived.Test.YtmdgpejedbkkdaaGreatDoorAT31
set_option linter.unusedVariables false
set_option linter.unusedSimpArgs false
set_option maxRecDepth 100000
set_option maxHeartbeats 16000000
open Go.Lib (hid)
namespace Go.Proofs.YtmdgpejedbkkdaaGreatDoor
section
open Go.RowKit Go.Sort
open Nw N8 Q6 F9 Go.ChangeShapes Go.WideShapes
theorem zero_one : ∀ u ∈ [Value.int .i64 0, .string ⟨#[]⟩, .slice none 0 0, .slice none 0 0], u.oneCell' = true := by
 intro u hu
 simp only [List.mem_cons, List.not_mem_nil, or_false] at hu
 rcases hu with rfl | rfl | rfl | rfl <;> rfl
theorem row_cells {w : World} {base g n cap : Nat} {xs ys : List Value} {a b c d : Value} (h : w.ownsRow base 25 4 (.slice (some ⟨g, 0, none⟩) (n + 1) cap) (n + 1) xs) (hx : xs = ys ++ [a, b, c, d]) (hy : ys.length = n * 4) :
  (w.cell? ⟨g, n * 4, none⟩ = some a ∧ w.cell? ⟨g, n * 4 + 1, none⟩ = some b ∧ w.cell? ⟨g, n * 4 + 2, none⟩ = some c ∧ w.cell? ⟨g, n * 4 + 3, none⟩ = some d) ∧ w.frozen? ⟨g, n * 4, none⟩ = false ∧ w.frozen? ⟨g, n * 4 + 1, none⟩ = false ∧ w.frozen? ⟨g, n * 4 + 2, none⟩ = false ∧ w.frozen? ⟨g, n * 4 + 3, none⟩ = false := by
 subst hx
 have key : ∀ j, j < 4 → w.cell? ⟨g, n * 4 + j, none⟩ = [a, b, c, d][j]? := fun j hj => by
  rw [h.cellAt _ (by omega), List.getElem?_append_right (by omega), hy, Nat.add_sub_cancel_left]
 exact ⟨⟨key 0 (by omega), key 1 (by omega), key 2 (by omega), key 3 (by omega)⟩, h.frozenAt _, h.frozenAt _, h.frozenAt _, h.frozenAt _⟩
theorem set_comm (w : World) {p r : Addr} (h : p.block ≠ r.block) (u v : Value) : (w.setCell p u).setCell r v = (w.setCell r v).setCell p u := by
 unfold World.setCell
 congr 1
 apply Array.ext
 ·simp
 ·intro i h1 h2
  simp only [Array.getElem_modify]
  by_cases e1 : p.block = i
  ·by_cases e2 : r.block = i
   ·exact absurd (e1.trans e2.symm) h
   ·simp [e1, e2]
  ·simp [e1]
theorem set_comm4 (w : World) {B gb j i : Nat} (h : B ≠ gb) {v a b c d : Value} : ((((w.setCell ⟨B, j, none⟩ v).setCell ⟨gb, i, none⟩ a).setCell ⟨gb, i + 1, none⟩ b).setCell ⟨gb, i + 2, none⟩ c).setCell ⟨gb, i + 3, none⟩ d = ((((w.setCell ⟨gb, i, none⟩ a).setCell ⟨gb, i + 1, none⟩ b).setCell ⟨gb, i + 2, none⟩ c).setCell ⟨gb, i + 3, none⟩ d).setCell ⟨B, j, none⟩ v := by
 rw [set_comm w (p := ⟨B, j, none⟩) (r := ⟨gb, i, none⟩) h, set_comm _ (p := ⟨B, j, none⟩) (r := ⟨gb, i + 1, none⟩) h, set_comm _ (p := ⟨B, j, none⟩) (r := ⟨gb, i + 2, none⟩) h, set_comm _ (p := ⟨B, j, none⟩) (r := ⟨gb, i + 3, none⟩) h]
theorem lies_ne {v : Value} {g H B : Nat} (h : v.ownBlock = some g ∨ g = H) (hn : v.ownBlock ≠ some B) (hB : B < H) : g ≠ B := by
 rintro rfl
 rcases h with h | h
 ·exact hn h
 ·omega
section
variable {b0 g B m n cap lo : Nat} {w : World} {r : ByteArray} {q : Q4} {qs : List Q4} {f : Fr} {S : List Fr}
theorem nd_go {w' : World} (h : RS b0 g B m n cap w r lo q qs f S) (hb : Below w.heap.size w w') {d : Nd} {c0 c1 c2 c3 : Value} (he : NdC (SF B lo w.heap.size q) w d c0 c1 c2 c3) : NdC (SF B lo w'.heap.size q) w' d c0 c1 c2 c3 :=
 NdC.keep (fun b hx => ⟨⟨hx.1, Nat.lt_of_lt_of_le hx.2.1 hb.size, hx.2.2⟩, hb.block b hx.2.1⟩) d he
theorem RS.kid_below {w0 w1 w2 : World} {gb : Nat} (h : RS b0 g B m n cap w r lo q qs f S) (hB : Below b0 w0 w) (hb : Below w.heap.size w w1) (hg : w1.grownBy w2 q.d.ownBlock) (hgb : lo ≤ gb) (a b c d v : Value) (i j : Nat) :
  Below b0 w0 (((((w2.setCell ⟨gb, i, none⟩ a).setCell ⟨gb, i + 1, none⟩ b).setCell ⟨gb, i + 2, none⟩ c).setCell ⟨gb, i + 3, none⟩ d).setCell ⟨B, j, none⟩ v) := by
 have hlt := h.lt
 have h0 := h.below_g
 have hs := hb.size
 have h2 : Below b0 w0 w2 := (hB.trans (hb.mono (by omega))).grown hg (by omega) fun k e => by have := (h.2.2.2.1.2.2.1.choose_spec.1.lt k e).1; omega
 exact ((((h2.setCell (p := ⟨gb, i, none⟩) (by show b0 ≤ gb; omega) a).setCell (p := ⟨gb, i + 1, none⟩) (by show b0 ≤ gb; omega) b).setCell (p := ⟨gb, i + 2, none⟩) (by show b0 ≤ gb; omega) c).setCell (p := ⟨gb, i + 3, none⟩) (by show b0 ≤ gb; omega) d).setCell (p := ⟨B, j, none⟩) (by show b0 ≤ B; omega) v
theorem add_rs (h : RS b0 g B m n cap w r lo q qs f S) (d : Nd) (k : Int) (s : ByteArray) (a : Option Addr) (x c : Nat) (A : Option Addr) (y z : Nat) (he : NdC (SF B lo w.heap.size q) w d (.int .i64 k) (.string s) (.slice a x c) (.slice A y z)) (hlen : f.ds.length ≤ 1000000) :
  Calls Tryz.prog 165 #[.pointer (some ⟨g, 0, none⟩), .agg #[.int .i64 k, .string s, .slice a x c, .slice A y z]] w fun e w' => e = .returned (.tuple #[]) ∧ (∃ q', RS b0 g B m n cap w' r lo q' qs (f.add d) S) ∧ Below b0 w w' := by
 have HBB := hid (show Below b0 w w from Below.refl _ _)
 have hal : Below w.heap.size w (w.alloc (.cells #[.int .i64 k, .string s, .slice a x c, .slice A y z] 25)) := (Below.refl _ _).alloc (Nat.le_refl _) _
 have HR0 := hid (h.go hal)
 have HB0 := hid (h.bb HBB.out hal)
 have HE0 := hid (nd_go h hal he)
 have HX := hid (Row4.make w 25 (.int .i64 k) (.string s) (.slice a x c) (.slice A y z))
 clear h he hal HBB
 generalize hW0 : w.alloc (.cells #[.int .i64 k, .string s, .slice a x c, .slice A y z] 25) = W0 at *
 generalize hbx : w.heap.size = bx at *
 have HI := hid (innermost_rs HR0.out)
 obtain ⟨j0, hj0, hy0, hy1, hy2⟩ := infoN
 go_enter Tryz.func165, Tryz.ntmps165
 go_wp2_with fail
 refine HI.out.mono ?_
 rintro e W1 ⟨rfl, hb⟩
 have hb2 : Below W0.heap.size W0 W1.drew := hb.drew
 have HR := hid (HR0.out.go hb2)
 have HB := hid (HR0.out.bb HB0.out hb2)
 have HE := hid (nd_go HR0.out hb2 HE0.out)
 have HXX := hid (HX.out.below hb2 HX.out.lt)
 clear hb hb2 HR0 HB0 HE0 HX HI hW0
 obtain ⟨v0, v1, v2, v3⟩ := HXX.out.cells
 obtain ⟨⟨t0, t1, t2, t3⟩, u2, u3⟩ := HR.out.top
 obtain ⟨-, dA, dc, hd⟩ := HR.out.shapes
 obtain ⟨ps, hko⟩ := HR.out.2.2.2.1.2.2.1
 have HKO := hid hko
 have hdl := hko.1.lt
 have hnB : q.d.ownBlock ≠ some B := fun e => (HR.out.2.2.2.1.2.2.2.2 B e).2 rfl
 have hBlt : B < W1.heap.size := HR.out.lt.2.1
 obtain ⟨n', hn'⟩ : ∃ n', f.ds.length = n' := ⟨_, rfl⟩
 obtain ⟨XS, hXS⟩ : ∃ XS, flat4 ps = XS := ⟨_, rfl⟩
 have hown := hko.1
 have hXL : XS.length = n' * 4 := by rw [← hXS, flat4_len, hko.2.1, hn']
 rw [hn', hXS] at hown
 have HOWN := hid hown
 rw [hn'] at hd hlen
 have HN := hid hn'
 have HXS := hid hXS
 have HXL := hid hXL
 rw [hd] at t3
 have HD := hid hd
 rw [hd] at HOWN hnB
 have hlo : lo ≤ W1.heap.size := HR.out.1.2.2.2
 have wn : IntKind.i64.wrap (n' : Int) = (n' : Int) := IntWalk.i64_in _ (by omega)
 have va0 : (W1.alloc (.cells #[.int .i64 0, .string ⟨#[]⟩, .slice none 0 0, .slice none 0 0] 25)).cell? ⟨bx, 0, none⟩ = some (.int .i64 k) := cells_alloc (w := W1) v0
 have va1 : (W1.alloc (.cells #[.int .i64 0, .string ⟨#[]⟩, .slice none 0 0, .slice none 0 0] 25)).cell? ⟨bx, 1, none⟩ = some (.string s) := cells_alloc (w := W1) v1
 have va2 : (W1.alloc (.cells #[.int .i64 0, .string ⟨#[]⟩, .slice none 0 0, .slice none 0 0] 25)).cell? ⟨bx, 2, none⟩ = some (.slice a x c) := cells_alloc (w := W1) v2
 have va3 : (W1.alloc (.cells #[.int .i64 0, .string ⟨#[]⟩, .slice none 0 0, .slice none 0 0] 25)).cell? ⟨bx, 3, none⟩ = some (.slice A y z) := cells_alloc (w := W1) v3
 have ta3 : (W1.alloc (.cells #[.int .i64 0, .string ⟨#[]⟩, .slice none 0 0, .slice none 0 0] 25)).cell? ⟨B, m * 4 + 3, none⟩ = some (.slice dA n' dc) := cells_alloc (w := W1) t3
 have ln : (n' : Int) < (n' : Int) + 1 := by omega
 have zn : (0 : Int) ≤ (n' : Int) := by omega
 have HFIN := hid (fun (gb cb : Nat) (w4 : World) (hownN : w4.ownsRow lo 25 4 (.slice (some ⟨gb, 0, none⟩) (n' + 1) cb) (n' + 1) (XS ++ [.int .i64 0, .string ⟨#[]⟩, .slice none 0 0, .slice none 0 0])) (hgN : World.grownBy (W1.drew.alloc (.cells #[.int .i64 0, .string ⟨#[]⟩, .slice none 0 0, .slice none 0 0] 25)) w4 (Value.slice dA n' dc).ownBlock) (hatN : (Value.slice dA n' dc).ownBlock = some gb ∨ gb = (W1.drew.alloc (.cells #[.int .i64 0, .string ⟨#[]⟩, .slice none 0 0, .slice none 0 0] 25)).heap.size) =>
  have hb9 : Below W1.drew.heap.size W1.drew (W1.drew.alloc (.cells #[.int .i64 0, .string ⟨#[]⟩, .slice none 0 0, .slice none 0 0] 25)) := (Below.refl _ _).alloc (Nat.le_refl _) _
  have hg9 : World.grownBy (W1.drew.alloc (.cells #[.int .i64 0, .string ⟨#[]⟩, .slice none 0 0, .slice none 0 0] 25)) w4 q.d.ownBlock := by rw [HD.out]; exact hgN
  And.intro (HR.out.kid hb9 (e := ⟨.int .i64 k, .string s, .slice a x c, .slice A y z⟩) HKO.out HN.out (by rw [HXS.out]) hownN hg9 (hatN.imp (fun e => by rw [HD.out]; exact e.symm) fun e => e) HE.out)
   (HR.out.kid_below HB.out hb9 hg9 (hownN.lt gb rfl).1 (.int .i64 k) (.string s) (.slice a x c) (.slice A y z) (.slice (some ⟨gb, 0, none⟩) (n' + 1) cb) (n' * 4) (m * 4 + 3)))
 clear hko hown hd hn' hXS hXL hdl
 go_upto_region 2 with fail
 go_region_law (first
  | (
   refine step_append_lies _ rfl (.tmp 10) (.tmp 13) 23 rfl lo 25 j0 _ 4 72 Tryz.underlying23 hj0 hy0 hy1 hy2 rfl (by decide) (.slice dA n' dc) n' XS rfl (HOWN.out.alloc _) _ 1 1 [.int .i64 0, .string ⟨#[]⟩, .slice none 0 0, .slice none 0 0] rfl rfl (news_blk #[.int .i64 0, .string ⟨#[]⟩, .slice none 0 0, .slice none 0 0] (alloc_at _ _)) zero_one (by omega) (by unfold maxLen; omega) (by omega) (by simp; omega) _ rfl ?_
   intro gb cb w4 hownN hgN hatN hltN
   obtain ⟨⟨y0, y1, y2, y3⟩, fy0, fy1, fy2, fy3⟩ := row_cells hownN rfl HXL.out
   have hz4 : w4.cell? ⟨B, m * 4 + 3, none⟩ = some (.slice dA n' dc) := cell_grown (cells_alloc t3) hgN hnB
   have hf4 : w4.frozen? ⟨B, m * 4 + 3, none⟩ = false := frozen_grown (frozen_alloc u3 hBlt) hgN (by simp; omega) hnB
   have gB : gb ≠ B := lies_ne hatN hnB (by simp; omega)
   have Bg : B ≠ gb := fun e => gB e.symm))
 all_goals
  have HK := hid (HFIN.out gb cb w4 hownN hgN hatN)
  clear hownN hgN hatN hltN
  go_end0
  refine ⟨rfl, ⟨⟨q.a, q.b, q.c, .slice (some ⟨gb, 0, none⟩) (n' + 1) cb⟩, ?_⟩, ?_⟩
  ·first
    | with_reducible exact HK.out.1
    | (rw [set_comm4 _ Bg]; with_reducible exact HK.out.1)
  ·first
    | with_reducible exact HK.out.2
    | (rw [set_comm4 _ Bg]; with_reducible exact HK.out.2)
end
end
section
open Go.RowKit Go.Sort
open Nw N8 Q6 F9 Go.ChangeShapes Go.WideShapes
section
variable {b0 g B m n cap lo : Nat} {w : World} {r : ByteArray} {q : Q4} {qs : List Q4} {f : Fr} {S : List Fr}
theorem str_empty {s : ByteArray} (h : s.data.toList = []) : s = ⟨#[]⟩ := bytes_of (l := #[]) h
theorem readScalar_none (h : RS b0 g B m n cap w r lo q qs f S) (hs : r.size ≤ 1000000) (l : L8) (hl : r.data.toList.drop (blk r.data.toList) = l) (r2 : ByteArray) (h2 : r2.data.toList = l.drop (tkn l)) (P : Option Nd) (hP : sclS true (frm l) = P) (hN : P = none) :
  Calls Tryz.prog 152 #[.pointer (some ⟨g, 0, none⟩)] w fun e w' => e = .returned (.bool false) ∧ Below b0 w w' := by
 obtain ⟨fm, hf⟩ : ∃ fm : ByteArray, fm.data.toList = frm l := ⟨ba (frm l), ba_data _⟩
 have hfs : fm.size ≤ 1000000 := by
  have e1 : fm.data.toList.length = fm.size := rfl
  have e2 : r.data.toList.length = r.size := rfl
  have e3 := trm_le (l.take (tkn l))
  rw [hf] at e1
  have e4 : (frm l).length ≤ l.length := by unfold frm; rw [List.length_take] at e3; omega
  have e5 : l.length ≤ r.data.toList.length := by rw [← hl, List.length_drop]; omega
  omega
 have HT := hid (takeScalar_rs h hs l hl fm r2 hf h2)
 have HSC := hid (fun W => FScalar_any fm true W hfs P (by rw [hf]; exact hP))
 have HE : Hid (scE P = 3) := hid (by rw [hN]; rfl)
 clear h hs hl h2 hP hN hf hfs
 go_enter Tryz.func152, Tryz.ntmps152
 go_wp2_with fail
 refine HT.out.mono ?_
 rintro e W1 ⟨rfl, hR, hB⟩
 have HB1 := hid hB
 have HR1 := hid hR
 clear hR hB HT
 go_wp2_with fail
 refine (HSC.out _).mono ?_
 rintro e W2 ⟨rfl, hb⟩
 rw [HE.out]
 have hb2 : Below W1.heap.size W1 (W2.alloc (.cells #[.int .i64 (scK P), .string (scT P), .slice none 0 0, .slice none 0 0] 25)) := hb.trans ((Below.refl _ _).alloc hb.size _)
 have HB := hid (HR1.out.bb HB1.out hb2)
 have HR := hid (HR1.out.go hb2)
 have HX := hid (Row4.make W2 25 (.int .i64 (scK P)) (.string (scT P)) (.slice none 0 0) (.slice none 0 0))
 clear hb hb2 HB1 HR1 HSC
 go_wp2
 go_ret
 exact ⟨rfl, HB.out⟩
theorem readScalar_seq (h : RS b0 g B m n cap w r lo q qs f S) (hs : r.size ≤ 1000000) (l : L8) (hl : r.data.toList.drop (blk r.data.toList) = l) (r2 : ByteArray) (h2 : r2.data.toList = l.drop (tkn l)) (P : Option Nd) (hP : sclS true (frm l) = P) (hN : P.isSome = true) (hfe : frm l = []) (hk : f.k = 2) :
  Calls Tryz.prog 152 #[.pointer (some ⟨g, 0, none⟩)] w fun e w' => e = .returned (.bool false) ∧ Below b0 w w' := by
 obtain ⟨fm, hf⟩ : ∃ fm : ByteArray, fm.data.toList = frm l := ⟨ba (frm l), ba_data _⟩
 have hfs : fm.size ≤ 1000000 := by
  have e1 : fm.data.toList.length = fm.size := rfl
  have e2 : r.data.toList.length = r.size := rfl
  have e3 := trm_le (l.take (tkn l))
  rw [hf] at e1
  have e4 : (frm l).length ≤ l.length := by unfold frm; rw [List.length_take] at e3; omega
  have e5 : l.length ≤ r.data.toList.length := by rw [← hl, List.length_drop]; omega
  omega
 have HT := hid (takeScalar_rs h hs l hl fm r2 hf h2)
 have HSC := hid (fun W => FScalar_any fm true W hfs P (by rw [hf]; exact hP))
 have HE : Hid (scE P = 0) := hid (by cases P with | none => cases hN | some d => rfl)
 have HK := hid hk
 obtain rfl := str_empty (hf.trans hfe)
 clear h hs hl h2 hP hN hf hfs hfe hk
 go_enter Tryz.func152, Tryz.ntmps152
 go_wp2_with fail
 refine HT.out.mono ?_
 rintro e W1 ⟨rfl, hR, hB⟩
 have HB1 := hid hB
 have HR1 := hid hR
 clear hR hB HT
 go_wp2_with fail
 refine (HSC.out _).mono ?_
 rintro e W2 ⟨rfl, hb⟩
 rw [HE.out]
 have hb2 : Below W1.heap.size W1 (W2.alloc (.cells #[.int .i64 (scK P), .string (scT P), .slice none 0 0, .slice none 0 0] 25)) := hb.trans ((Below.refl _ _).alloc hb.size _)
 have HB := hid (HR1.out.bb HB1.out hb2)
 have HR := hid (HR1.out.go hb2)
 have HX := hid (Row4.make W2 25 (.int .i64 (scK P)) (.string (scT P)) (.slice none 0 0) (.slice none 0 0))
 clear hb hb2 HB1 HR1 HSC
 go_upto_region 3 with fail
 generalize W2.alloc (.cells #[.int .i64 (scK P), .string (scT P), .slice none 0 0, .slice none 0 0] 25) = W3 at *
 generalize W2.heap.size = gx at *
 have HI := hid (innermost_rs HR.out)
 go_wp2_with fail
 refine HI.out.mono ?_
 rintro e W4 ⟨rfl, hb⟩
 replace HB := hid (HR.out.bb HB.out hb)
 replace HX := hid (HX.out.below hb HX.out.lt)
 replace HR := hid (HR.out.go hb)
 clear hb HI
 obtain ⟨⟨t0, t1, t2, t3⟩, -, -⟩ := HR.out.top
 obtain ⟨x0, x1, x2, x3⟩ := HX.out.cells
 rw [HK.out] at t0
 go_wp2
 go_ret
 exact ⟨rfl, HB.out⟩
theorem readScalar_txt (h : RS b0 g B m n cap w r lo q qs f S) (hs : r.size ≤ 1000000) (l : L8) (hl : r.data.toList.drop (blk r.data.toList) = l) (r2 : ByteArray) (h2 : r2.data.toList = l.drop (tkn l)) (P : Option Nd) (hP : sclS true (frm l) = P) (d : Nd) (hN : P = some d) (hlen : f.ds.length ≤ 1000000) (hfe : frm l ≠ []) :
  Calls Tryz.prog 152 #[.pointer (some ⟨g, 0, none⟩)] w fun e w' => e = .returned (.bool true) ∧ (∃ q', RS b0 g B m n cap w' r2 lo q' qs (f.add d) S) ∧ Below b0 w w' := by
 obtain ⟨fm, hf⟩ : ∃ fm : ByteArray, fm.data.toList = frm l := ⟨ba (frm l), ba_data _⟩
 have hfs : fm.size ≤ 1000000 := by
  have e1 : fm.data.toList.length = fm.size := rfl
  have e2 : r.data.toList.length = r.size := rfl
  have e3 := trm_le (l.take (tkn l))
  rw [hf] at e1
  have e4 : (frm l).length ≤ l.length := by unfold frm; rw [List.length_take] at e3; omega
  have e5 : l.length ≤ r.data.toList.length := by rw [← hl, List.length_drop]; omega
  omega
 have HT := hid (takeScalar_rs h hs l hl fm r2 hf h2)
 have HSC := hid (fun W => FScalar_any fm true W hfs P (by rw [hf]; exact hP))
 have HE : Hid (scE P = 0) := hid (by rw [hN]; rfl)
 have HND : Hid (∀ (T : Nat → Prop) (W : World), NdC T W d (.int .i64 (scK P)) (.string (scT P)) (.slice none 0 0) (.slice none 0 0)) := hid (fun T W => by
  have h9 := nd_scl (row := true) (l := frm l) T W
  rw [hP, hN] at h9
  rw [hN]
  exact h9)
 have HLEN := hid hlen
 have hfe2 : fm.data.toList ≠ [] := fun e => hfe (hf.symm.trans e)
 have p0 : fm.toList.isEmpty = false := by rw [ByteArray.toList_eq, List.isEmpty_eq_false_iff]; exact hfe2
 have p0' : ¬ fm.toList = [] := by rw [ByteArray.toList_eq]; exact hfe2
 clear h hs hl h2 hP hN hf hfs hfe hfe2 hlen
 go_enter Tryz.func152, Tryz.ntmps152
 go_wp2_with fail
 refine HT.out.mono ?_
 rintro e W1 ⟨rfl, hR, hB⟩
 have HB1 := hid hB
 have HR1 := hid hR
 clear hR hB HT
 go_wp2_with fail
 refine (HSC.out _).mono ?_
 rintro e W2 ⟨rfl, hb⟩
 rw [HE.out]
 have hb2 : Below W1.heap.size W1 (W2.alloc (.cells #[.int .i64 (scK P), .string (scT P), .slice none 0 0, .slice none 0 0] 25)) := hb.trans ((Below.refl _ _).alloc hb.size _)
 have HB := hid (HR1.out.bb HB1.out hb2)
 have HR := hid (HR1.out.go hb2)
 have HX := hid (Row4.make W2 25 (.int .i64 (scK P)) (.string (scT P)) (.slice none 0 0) (.slice none 0 0))
 clear hb hb2 HB1 HR1 HSC
 go_upto_region 3 with fail
 generalize W2.alloc (.cells #[.int .i64 (scK P), .string (scT P), .slice none 0 0, .slice none 0 0] 25) = W3 at *
 generalize W2.heap.size = gx at *
 obtain ⟨x0, x1, x2, x3⟩ := HX.out.cells
 have HA := hid (add_rs HR.out d (scK P) (scT P) none 0 0 none 0 0 (HND.out _ _) HLEN.out)
 clear HR
 go_wp2_with fail
 refine HA.out.mono ?_
 rintro e W5 ⟨rfl, ⟨q', hR⟩, hB⟩
 have HR := hid hR
 have HB2 := hid (HB.out.trans hB)
 clear hR hB
 go_wp2
 go_ret
 exact ⟨rfl, ⟨q', HR.out⟩, HB2.out⟩
theorem readScalar_nil (h : RS b0 g B m n cap w r lo q qs f S) (hs : r.size ≤ 1000000) (l : L8) (hl : r.data.toList.drop (blk r.data.toList) = l) (r2 : ByteArray) (h2 : r2.data.toList = l.drop (tkn l)) (P : Option Nd) (hP : sclS true (frm l) = P) (d : Nd) (hN : P = some d) (hlen : f.ds.length ≤ 1000000) (hfe : frm l = []) (hk : f.k ≠ 2) :
  Calls Tryz.prog 152 #[.pointer (some ⟨g, 0, none⟩)] w fun e w' => e = .returned (.bool true) ∧ (∃ q', RS b0 g B m n cap w' r2 lo q' qs (f.add d) S) ∧ Below b0 w w' := by
 obtain ⟨fm, hf⟩ : ∃ fm : ByteArray, fm.data.toList = frm l := ⟨ba (frm l), ba_data _⟩
 have hfs : fm.size ≤ 1000000 := by
  have e1 : fm.data.toList.length = fm.size := rfl
  have e2 : r.data.toList.length = r.size := rfl
  have e3 := trm_le (l.take (tkn l))
  rw [hf] at e1
  have e4 : (frm l).length ≤ l.length := by unfold frm; rw [List.length_take] at e3; omega
  have e5 : l.length ≤ r.data.toList.length := by rw [← hl, List.length_drop]; omega
  omega
 have HT := hid (takeScalar_rs h hs l hl fm r2 hf h2)
 have HSC := hid (fun W => FScalar_any fm true W hfs P (by rw [hf]; exact hP))
 have HE : Hid (scE P = 0) := hid (by rw [hN]; rfl)
 have HND : Hid (∀ (T : Nat → Prop) (W : World), NdC T W d (.int .i64 (scK P)) (.string (scT P)) (.slice none 0 0) (.slice none 0 0)) := hid (fun T W => by
  have h9 := nd_scl (row := true) (l := frm l) T W
  rw [hP, hN] at h9
  rw [hN]
  exact h9)
 have HLEN := hid hlen
 have hk2 : (f.k == 2) = false := beq_eq_false_iff_ne.2 hk
 obtain rfl := str_empty (hf.trans hfe)
 clear h hs hl h2 hP hN hf hfs hfe hlen
 go_enter Tryz.func152, Tryz.ntmps152
 go_wp2_with fail
 refine HT.out.mono ?_
 rintro e W1 ⟨rfl, hR, hB⟩
 have HB1 := hid hB
 have HR1 := hid hR
 clear hR hB HT
 go_wp2_with fail
 refine (HSC.out _).mono ?_
 rintro e W2 ⟨rfl, hb⟩
 rw [HE.out]
 have hb2 : Below W1.heap.size W1 (W2.alloc (.cells #[.int .i64 (scK P), .string (scT P), .slice none 0 0, .slice none 0 0] 25)) := hb.trans ((Below.refl _ _).alloc hb.size _)
 have HB := hid (HR1.out.bb HB1.out hb2)
 have HR := hid (HR1.out.go hb2)
 have HX := hid (Row4.make W2 25 (.int .i64 (scK P)) (.string (scT P)) (.slice none 0 0) (.slice none 0 0))
 clear hb hb2 HB1 HR1 HSC
 go_upto_region 3 with fail
 generalize W2.alloc (.cells #[.int .i64 (scK P), .string (scT P), .slice none 0 0, .slice none 0 0] 25) = W3 at *
 generalize W2.heap.size = gx at *
 have HI := hid (innermost_rs HR.out)
 go_wp2_with fail
 refine HI.out.mono ?_
 rintro e W4 ⟨rfl, hb⟩
 replace HB := hid (HR.out.bb HB.out hb)
 replace HX := hid (HX.out.below hb HX.out.lt)
 replace HR := hid (HR.out.go hb)
 clear hb HI
 obtain ⟨⟨t0, t1, t2, t3⟩, -, -⟩ := HR.out.top
 obtain ⟨x0, x1, x2, x3⟩ := HX.out.cells
 have HA := hid (add_rs HR.out d (scK P) (scT P) none 0 0 none 0 0 (HND.out _ _) HLEN.out)
 clear HR
 go_wp2_with fail
 refine HA.out.mono ?_
 rintro e W5 ⟨rfl, ⟨q', hR⟩, hB⟩
 have HR := hid hR
 have HB2 := hid (HB.out.trans hB)
 clear hR hB
 go_wp2
 go_ret
 exact ⟨rfl, ⟨q', HR.out⟩, HB2.out⟩
end
end
end Go.Proofs.YtmdgpejedbkkdaaGreatDoor
