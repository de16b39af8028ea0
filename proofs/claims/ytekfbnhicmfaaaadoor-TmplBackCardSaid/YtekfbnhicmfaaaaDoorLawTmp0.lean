/- The contract of the statements' taken. -/
import Derived.Test.YtekfbnhicmfaaaaDoorRefTmp1
import Derived.Deep.RegionHeld3
import Derived.Deep.AppendLies
import Derived.Maps.AppendAt
namespace Go.Proofs.YtekfbnhicmfaaaaDoor
open Go.RowKit Go.Sort
open Nw T13
set_option linter.unusedVariables false
attribute [local go_sem] Oper.semAt_some
theorem infoP13a : (Tryd.prog.info? 46).map (fun i => (i.zero, i.size, i.bytes)) = some (some (.agg #[.string ⟨#[]⟩, .string ⟨#[]⟩, .int .i64 0, .slice none 0 0]), 4, 64) := by kernel_rfl
theorem infoP13 : ∃ i, Tryd.prog.info? 46 = some i ∧ i.zero = some (.agg #[.string ⟨#[]⟩, .string ⟨#[]⟩, .int .i64 0, .slice none 0 0]) ∧ i.size = 4 ∧ i.bytes = 64 := by
  have h := infoP13a
  cases hi : Tryd.prog.info? 46 with
  | none => rw [hi] at h; cases h
  | some i =>
    rw [hi] at h
    simp only [Option.map_some, Option.some.injEq, Prod.mk.injEq] at h
    exact ⟨i, rfl, h.1, h.2.1, h.2.2⟩
/-- Four cells of a block that is there. -/
@[reducible] def CellsP (b o : Nat) (x y z u : Value) (w : World) : Prop :=
  b < w.heap.size ∧ w.cell? ⟨b, o, none⟩ = some x ∧ w.cell? ⟨b, o + 1, none⟩ = some y ∧ w.cell? ⟨b, o + 2, none⟩ = some z ∧ w.cell? ⟨b, o + 3, none⟩ = some u
theorem CellsP.below {b o : Nat} {x y z u : Value} {w w' : World} (h : CellsP b o x y z u w) (hb : Below w.heap.size w w') : CellsP b o x y z u w' :=
  ⟨Nat.lt_of_lt_of_le h.1 hb.size, (hb.cell (p := ⟨b, o, none⟩) h.1).trans h.2.1, (hb.cell (p := ⟨b, o + 1, none⟩) h.1).trans h.2.2.1, (hb.cell (p := ⟨b, o + 2, none⟩) h.1).trans h.2.2.2.1, (hb.cell (p := ⟨b, o + 3, none⟩) h.1).trans h.2.2.2.2⟩
theorem keepP_alloc {b o : Nat} {x y z u : Value} {w : World} {ob : Obj} (h : CellsP b o x y z u w) : CellsP b o x y z u (w.alloc ob) := h.below ((Below.refl _ _).alloc (Nat.le_refl _) _)
theorem keepP_grown {b o : Nat} {x y z u : Value} {w w' : World} {row : Option Nat} (hg : w.grownBy w' row) (hn : row ≠ some b) (h : CellsP b o x y z u w) : CellsP b o x y z u w' :=
  have hk := hg.block b h.1 (fun e => hn e.symm)
  ⟨Nat.lt_of_lt_of_le h.1 hg.size, (World.cell?_of_block hk).trans h.2.1, (World.cell?_of_block hk).trans h.2.2.1, (World.cell?_of_block hk).trans h.2.2.2.1, (World.cell?_of_block hk).trans h.2.2.2.2⟩
theorem news13 (w : World) (c : Array Value) (t : TypeId) : ∀ j u, c.toList[j]? = some u → (w.alloc (.cells c t)).cell? ((⟨w.heap.size, 0, none⟩ : Addr).add j) = some u := by
  intro j u h
  rw [Go.WideShapes.add_plain, Nat.zero_add]
  have e : (w.alloc (.cells c t)).heap[w.heap.size]? = some (.cells c t (0, 0)) := Array.getElem?_push_size (xs := w.heap)
  rw [cell_of_row _ _ j c t (0, 0) e]
  simpa using h
theorem four13 (x y : ByteArray) (o : Int) (A : Option Addr) (n c : Nat) : ∀ u ∈ [Value.string x, .string y, .int .i64 o, .slice A n c], u.oneCell' = true := by
  intro u hu
  simp only [List.mem_cons, List.not_mem_nil, or_false] at hu
  rcases hu with rfl | rfl | rfl | rfl <;> rfl
theorem PtN.of_lit (e : TypeId) (w : World) : PtN e w (w.alloc (.cells #[] e)) (.slice (some ⟨w.heap.size, 0, none⟩) 0 0) [] := ⟨[], ptO_lit e _ w⟩
theorem PtC.mk_ {S : Nat → Prop} {w : World} {n t : L8} {o : Int} {s : List Pt} {c3 : Value} (h : PtL S w c3 s) : PtC S w (.mk n t o s) (.string (ba n)) (.string (ba t)) (.int .i64 o) c3 := by
  rw [PtC]
  exact ⟨rfl, rfl, rfl, h⟩
theorem take_app13 {ps : List Pt} {j : Nat} (h : j < ps.length) : ps.take (j + 1) = ps.take j ++ [ps[j]'h] := List.take_succ_eq_append_getElem h
theorem PtO.go {e : TypeId} {w W W' : World} {v : Value} {qs : List Qp} {ps : List Pt} (h : PtO e (Mine w W v) w.heap.size W v qs ps) (hb : Below W.heap.size W W') : PtO e (Mine w W' v) w.heap.size W' v qs ps :=
  h.keep (fun b hs => ⟨⟨hs.1, Nat.lt_of_lt_of_le hs.2.1 hb.size, hs.2.2⟩, hb.block b hs.2.1⟩) fun g hg => hb.block g (h.1.lt g hg).2
set_option maxRecDepth 100000 in
set_option maxHeartbeats 8000000 in
theorem taken_any13 (N : Nat) : ∀ (ps : List Pt), cntL ps < N → N ≤ 1000000 → ∀ (v : Value) (w : World), PtW w v ps →
    Calls Tryd.prog 7 #[v] w fun e w' => ∃ v', e = .returned v' ∧ PtL (Since w w') w' v' ps ∧ Below w.heap.size w w' := by
  obtain ⟨i0, hi, hz0, hz1, hz2⟩ := infoP13
  induction N with
  | zero => intro ps hc; omega
  | succ N ih =>
    intro ps hc hN v w h
    have HIH := Lib.hid ih
    have HP := Lib.hid h
    have hln := cntL_len13 ps
    obtain ⟨A, cap, rfl, hcap, hcm, -⟩ := h
    unfold maxLen at hcm
    have HC := Lib.hid hc
    obtain ⟨n, hn⟩ : ∃ n, n = ps.length := ⟨_, rfl⟩
    rw [← hn] at hcap hln HP ⊢
    have HN := Lib.hid hn
    have hn1 : n ≤ 1000000 := by omega
    have HN1 := Lib.hid hN
    have HO0 : Hid (PtN 46 w (w.alloc (.cells #[] 46)) (.slice (some ⟨w.heap.size, 0, none⟩) 0 0) (ps.take 0)) := Lib.hid (PtN.of_lit _ w)
    clear ih hc hn hln hN
    go_enter Tryd.func7, Tryd.ntmps7
    go_wp2
    go_loopw [3, 4] (fun out i wr => ∃ j : Nat, j ≤ n ∧ i = .int .i64 (j : Int) ∧ Hid (PtN 46 w wr out (ps.take j)) ∧ Hid (Below w.heap.size w wr)) (fun _ i _ => n - (intOf i).toNat)
    case atStart => exact ⟨0, Nat.zero_le _, rfl, HO0, Lib.hid ((Below.refl _ _).alloc (Nat.le_refl _) _)⟩
    case round =>
      clear HO0
      obtain ⟨j, hj, rfl, HO, HB⟩ := hrel
      by_cases hlt : j < n
      · have hjl : Hid (j < ps.length) := Lib.hid (by have := HN.out; omega)
        obtain ⟨b, o, e0, e1, e2, e3, rfl, hbl, x0, x1, x2, x3, hsub⟩ := PtL.at_ HP.out j hjl.out
        have hcs := @cnt_sub ps j hjl.out
        have hpre := take_app13 hjl.out
        obtain ⟨p, hp⟩ : ∃ p, ps[j]'hjl.out = p := ⟨_, rfl⟩
        rw [hp] at hsub hpre
        obtain ⟨nm, tx, op, sb⟩ := p
        have hcs2 := hcs hp
        obtain ⟨rfl, rfl, rfl, hsb⟩ := hsub.sub
        have hjz : (j : Int) < (n : Int) := by omega
        have hjc : (j : Int) < (cap : Int) := by omega
        have hC : CellsP b (o + j * 4) (.string (ba nm)) (.string (ba tx)) (.int .i64 op) e3 wr := CellsP.below ⟨hbl, x0, x1, x2, x3⟩ HB.out
        have HSB : Hid (PtW wr.drew e3 sb) := Lib.hid (PtW.below hsb (HB.out.trans ((below_drewN wr 1).mono HB.out.size)))
        have HD := Lib.hid (HIH.out sb (by have := HC.out; omega) (by have := HN1.out; omega) e3 wr.drew HSB.out)
        have HPRE := Lib.hid hpre
        obtain ⟨X, hX⟩ : ∃ X, ba nm = X := ⟨_, rfl⟩
        obtain ⟨Y, hY⟩ : ∃ Y, ba tx = Y := ⟨_, rfl⟩
        have HXY := Lib.hid (And.intro hX hY)
        rw [hX, hY] at hC
        obtain ⟨qs, hqs⟩ := HO.out
        have hown : wr.ownsRow w.heap.size 46 4 u3 j (flatQ qs) := by have := hqs.1; rw [List.length_take, Nat.min_eq_left (by have := HN.out; omega)] at this; exact this
        have HQS := Lib.hid hqs
        have hnv : u3.ownBlock ≠ some b := fun e => by have := (hown.lt b e).1; omega
        have HOL : Hid (∀ g, u3.ownBlock = some g → w.heap.size ≤ g ∧ g < wr.heap.size) := Lib.hid (fun g hg => hown.lt g hg)
        obtain ⟨FQ, hFQ⟩ : ∃ FQ, flatQ qs = FQ := ⟨_, rfl⟩
        rw [hFQ] at hown
        have HFQ := Lib.hid hFQ
        have HOW := Lib.hid hown
        have HBS := HB.out.size
        clear hsub hp hcs hcs2 hsb hX hY hpre hqs hown hFQ x0 x1 x2 x3
        go_wp2
        have hS1 : CellsP b (o + j * 4) (.string X) (.string Y) (.int .i64 op) e3 wr.drew := hC
        go_region_held3 (fun W => b < W.heap.size ∧ W.cell? ⟨b, o + j * 4, none⟩ = some (.string X) ∧ W.cell? ⟨b, o + j * 4 + 1, none⟩ = some (.string Y) ∧ W.cell? ⟨b, o + j * 4 + 2, none⟩ = some (.int .i64 op) ∧ W.cell? ⟨b, o + j * 4 + 3, none⟩ = some e3) (first | exact hS1 | exact hS2 | assumption | exact keepP_alloc (by assumption) | exact keepP_grown hgr hnv (by assumption))
          (first
            | (go_at_call 7; refine HD.out.mono ?_; rintro e4 w2 ⟨u2, rfl, hu2, hb2⟩; have HU2 := Lib.hid hu2; have HB2 := Lib.hid hb2; obtain ⟨A2, c2, rfl, -⟩ := hu2; have hS2 := CellsP.below hS1 hb2; have HOW2 := Lib.hid (owns_keep13 HOW.out fun g hg => hb2.block g (HOW.out.lt g hg).2); have hz2s := hb2.size; clear hb2)
            | (refine step_append_lies _ rfl _ _ 27 rfl w.heap.size 46 i0 _ 4 64 Tryd.underlying27 hi hz0 hz1 hz2 rfl (by decide) _ _ _ rfl (HOW2.out.alloc _) ⟨w2.heap.size, 0, none⟩ 1 1 [.string X, .string Y, .int .i64 op, .slice A2 sb.length c2] rfl rfl (news13 w2 _ _) (four13 X Y op A2 sb.length c2) (by omega) (by unfold maxLen; omega) (by omega) (by simp; simp at hz2s; omega) _ rfl ?_; intro g3 c3 w3 ho3 hgr hl3 hlt3))
        all_goals
          have hg3 : World.grownBy (w2.alloc (.cells #[.string X, .string Y, .int .i64 op, .slice A2 sb.length c2] 46)) w3 u3.ownBlock := hgr
          have hl4 : u3.ownBlock = some g3 ∨ g3 = (w2.alloc (.cells #[.string X, .string Y, .int .i64 op, .slice A2 sb.length c2] 46)).heap.size := hl3
          have hbw : Below wr.heap.size wr (w2.alloc (.cells #[.string X, .string Y, .int .i64 op, .slice A2 sb.length c2] 46)) := ((below_drewN wr 1).trans HB2.out).alloc HB2.out.size _
          have hp1 := HQS.out.go hbw
          have hq1 : PtQ (Mine w (w2.alloc (.cells #[.string X, .string Y, .int .i64 op, .slice A2 sb.length c2] 46)) u3) (w2.alloc (.cells #[.string X, .string Y, .int .i64 op, .slice A2 sb.length c2] 46)) (.mk nm tx op sb) ⟨.string X, .string Y, .int .i64 op, .slice A2 sb.length c2⟩ := by
            rw [← HXY.out.1, ← HXY.out.2]
            refine PtC.mk_ (PtL.keep HU2.out fun b hb => ⟨?_, Below.heap_alloc w2 _ b hb.2⟩)
            refine mine_since (W0 := wr.drew) HBS (fun g hg => (HOL.out g hg).2) b ⟨hb.1, ?_⟩
            have := hb.2
            simp
            omega
          have ho4 : w3.ownsRow w.heap.size 46 4 (.slice (some ⟨g3, 0, none⟩) (j + 1) c3) ((ps.take j).length + 1) (flatQ qs ++ [.string X, .string Y, .int .i64 op, .slice A2 sb.length c2]) := by
            rw [List.length_take, Nat.min_eq_left (by have := HN.out; omega), HFQ.out]; exact ho3
          have hR := Lib.hid (PtN.grow hp1 hq1 ho4 hg3 (by
            rcases hl4 with e | e
            · exact .inl e.symm
            · exact .inr (by rw [← e]; rfl)))
          have HBF : Hid (Below w.heap.size w w3) := Lib.hid ((HB.out.trans (hbw.mono HBS)).grown hg3 (Nat.le_trans HBS hbw.size) fun q hq => (HOL.out q hq).1)
          clear hS1 hS2 hgr hl3 hg3 hl4 hbw hp1 hq1 ho4 ho3 hlt3 hC
          go_wp2
          go_roundw
          case rel => exact ⟨j + 1, by omega, by go_num, by rw [HPRE.out]; exact hR, HBF⟩
          case measure => simp [intOf]; omega
      · obtain rfl : j = n := by omega
        have HT : Hid (ps.take j = ps) := Lib.hid (by rw [show j = ps.length from HN.out, List.take_length])
        go_wp2
        go_ret
        rw [HT.out] at HO
        exact ⟨_, rfl, HO.out.done, HB.out⟩
end Go.Proofs.YtekfbnhicmfaaaaDoor
