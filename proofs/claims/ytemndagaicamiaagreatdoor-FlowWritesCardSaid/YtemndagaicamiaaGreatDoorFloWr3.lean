/- The program's appendForm and Write. -/
import Derived.Test.YtemndagaicamiaaGreatDoorFloWr2
import Derived.Test.YtemndagaicamiaaGreatDoorFloLaw
import Derived.Test.YtemndagaicamiaaGreatDoorNodRight
import Derived.Deep.RegionHeld3
namespace Go.Proofs.YtemndagaicamiaaGreatDoor
open Go.RowKit Go.Sort
open Nw N8 Q6 F9 Go.ChangeShapes Go.WideShapes
set_option linter.unusedVariables false
/-- A slice that may be nil, in a world that only grows. -/
def PW (W1 : World) (base : Nat) (v : Value) (n : Nat) (xs : List Value) (W : World) : Prop := Below W1.heap.size W1 W ∧ base ≤ W.heap.size ∧ W.ownsRow base 5 1 v n xs
section
variable {W1 W W' : World} {base n g cap : Nat} {v : Value} {xs ys : List Value} {l : L8} {c : UInt8}
theorem PW.alloc (h : PW W1 base v n xs W) (o : Obj) : PW W1 base v n xs (W.alloc o) := ⟨h.1.alloc h.1.size o, by simp; have := h.2.1; omega, h.2.2.alloc o⟩
theorem PW.ks (h : PW W1 base v n xs W) (hxs : xs = l.map encB) (ho : W'.ownsRow base 5 1 (.slice (some ⟨g, 0, none⟩) (n + 1) cap) (n + 1) (xs ++ [.int .u8 (c.toNat : Int)])) (hg : W.grownBy W' v.ownBlock) (hat : v.ownBlock = some g ∨ g = W.heap.size) :
    KS W1 base v.ownBlock W' g (n + 1) cap (l ++ [c]) := by
  subst hxs
  refine ⟨by rw [map_snoc]; exact ho, gro_trans (r1 := v.ownBlock) ⟨h.1.os, h.1.tape, h.1.output, h.1.size, fun k hk _ => h.1.block k hk⟩ hg (fun k hk => .inl hk), hat.imp id fun e => by rw [e]; exact h.1.size⟩
end
theorem zz_new {wA wB : World} {gA : Nat} {O : Obj} (hB : (wA.alloc O).grownBy wB (some gA)) (hlt : gA < wA.heap.size) : wB.heap[wA.heap.size]? = some O :=
  (hB.block _ (by simp) (fun e => by injection e with e; omega)).trans (alloc_at _ _)
theorem zz_old {W1 W wA wB : World} {v : Value} {gA k : Nat} {O : Obj} (hA : W.grownBy wA v.ownBlock) (hB : wA.grownBy wB (some gA)) (hat : v.ownBlock = some gA ∨ gA = W.heap.size) (hv : ∀ k, v.ownBlock = some k → k < W1.heap.size) (hk : W.heap[k]? = some O) (hle : W1.heap.size ≤ k) : wB.heap[k]? = some O := by
  have hlt : k < W.heap.size := by
    rcases Nat.lt_or_ge k W.heap.size with h | h
    · exact h
    · rw [Array.getElem?_eq_none h] at hk; cases hk
  have hs := hA.size
  refine (hB.block k (by omega) (fun e => ?_)).trans ((hA.block k hlt (fun e => ?_)).trans hk)
  · injection e with e
    rcases hat with h | h
    · have := hv _ h; omega
    · omega
  · have := hv _ e.symm; omega
theorem some_ne {a b : Nat} (h : a ≠ b) : (some a : Option Nat) ≠ some b := fun e => h (by injection e)
theorem KS.ne {W1 W : World} {base g m cap H : Nat} {r : Option Nat} {L : L8} (h : KS W1 base r W g m cap L) (hr : r ≠ some H) (hH : H < W1.heap.size) : g ≠ H := by
  rcases h.2.2 with e | e
  · rintro rfl; exact hr e
  · omega
set_option maxRecDepth 100000 in
set_option maxHeartbeats 8000000 in
theorem AF_seq (N : Nat) (ih : AFof N) (t : L8) (ks : List L8) (ds : List Nd) (hN : cntL ds ≤ N) (hf : ∀ d ∈ ds, Fine d) (l : L8) (n base : Nat) (v c0 c1 c2 c3 : Value) (w : World) (ho : w.ownsRow base 5 1 v n (l.map encB)) (hb : base ≤ w.heap.size) (hd : NdC (· < base) w (.mk 2 t ks ds) c0 c1 c2 c3) (hs : l.length + (wrT (.mk 2 t ks ds)).length ≤ 1000000) :
    Calls Tryz.prog 15 #[v, .agg #[c0, c1, c2, c3]] w fun e w' => Apd w w' base v (l ++ wrT (.mk 2 t ks ds)) e := by
  obtain ⟨i0, hi, hz0, hz1, hz2⟩ := infoB
  have hll := own_len ho
  obtain ⟨k0, T, a, na, ca, A, mA, qA, rfl, rfl, rfl, rfl⟩ := hd.cellsOk
  have hc := hd
  rw [NdC] at hc
  obtain ⟨h0, -⟩ := hc
  injection h0 with _ h0
  subst h0
  obtain ⟨W1, hW1⟩ : ∃ W1, w.alloc (.cells #[.int .i64 2, .string T, .slice a na ca, .slice A mA qA] 25) = W1 := ⟨_, rfl⟩
  have hal : w.grownBy W1 v.ownBlock := by rw [← hW1]; exact World.grownBy_alloc w _ _
  have hX : Row4 W1 w.heap.size 25 (.int .i64 2) (.string T) (.slice a na ca) (.slice A mA qA) := by rw [← hW1]; exact Row4.make w _ _ _ _ _
  have hvl0 := ownb_lt ho
  have hs1 : W1.heap.size = w.heap.size + 1 := by rw [← hW1]; simp
  have hvl : ∀ k, v.ownBlock = some k → k < W1.heap.size := fun k e => by have := (hvl0 k e).2; omega
  have hnv : v.ownBlock ≠ some w.heap.size := fun e => by have := (hvl0 _ e).2; omega
  have hHlt : w.heap.size < W1.heap.size := by omega
  have hb1 : base ≤ W1.heap.size := by omega
  have hd1 : NdC (· < base) W1 (.mk 2 t ks ds) (.int .i64 2) (.string T) (.slice a na ca) (.slice A mA qA) := by
    rw [← hW1]; exact NdC.keep (fun b hx => ⟨hx, Below.heap_alloc w _ b (by have : b < base := hx; omega)⟩) _ hd
  rw [wrT_seq] at hs ⊢
  have HLB : Hid (((l ++ [91]) ++ wrS ds).length + 1 ≤ 1000000) := Lib.hid (by
    simp only [List.length_append, List.length_cons, List.length_nil] at hs ⊢
    omega)
  have HKIDS := Lib.hid (fun W g m cap (h : KS W1 base v.ownBlock W g m cap (l ++ [91])) => AK_seq N ih t ks ds hN hf (l ++ [91]) m base g cap _ _ _ _ W h.1 (Nat.le_trans hb1 h.2.1.size) (gro_nd h.2.1 hb1 (fun k e => (hvl0 k e).1) hd1) (by have := HLB.out; rw [List.length_append] at this; omega))
  obtain ⟨XS, hXS⟩ : ∃ XS, l.map encB = XS := ⟨_, rfl⟩
  have HXS := Lib.hid hXS
  have hP : PW W1 base v n XS W1.drew := ⟨below_drew W1, hb1, by rw [← hXS, ← hW1]; exact ho.alloc _⟩
  have HAL := Lib.hid hal
  have HEQ : Hid (((l ++ [91]) ++ wrS ds) ++ [93] = l ++ (91 :: wrS ds ++ [93])) := Lib.hid (by simp)
  have hC4 : Cells4 w.heap.size (.int .i64 2) (.string T) (.slice a na ca) (.slice A mA qA) W1.drew := ⟨hX.lt, hX.cells⟩
  obtain ⟨x0, x1, x2, x3⟩ := hX.cells
  have hnl : n ≤ 1000000 := by omega
  clear hd hd1 ho hal hX hs hN hf ih hXS hvl0 hll hs1
  go_enter Tryz.func15, Tryz.ntmps15
  go_upto_region 1 with fail
  clear hW1
  go_upto_region 5 with fail
  go_region_held3 (fun W => w.heap.size < W.heap.size ∧ W.cell? ⟨w.heap.size, 0, none⟩ = some (.int .i64 2) ∧ W.cell? ⟨w.heap.size, 1, none⟩ = some (.string T) ∧ W.cell? ⟨w.heap.size, 2, none⟩ = some (.slice a na ca) ∧ W.cell? ⟨w.heap.size, 3, none⟩ = some (.slice A mA qA)) (first | exact hC4 | assumption | exact keep4_alloc (by assumption) | exact keep4_grown hgA hnv (by assumption) | exact keep4_grown hgB hnA (by assumption) | exact keep4_grown hgC hnB (by assumption)) (first | (refine step_append_lies _ rfl (.tmp 16) (.tmp 17) 36 rfl base 5 i0 _ 1 1 Tryz.underlying36 hi hz0 hz1 hz2 rfl (by decide) v n XS rfl (by first | exact hP.2.2 | exact (hP.alloc _).2.2 | exact ((hP.alloc _).alloc _).2.2) _ 1 1 [.int .u8 91] rfl rfl (by first | exact news_blk #[.int .u8 91] (alloc_at _ _) | exact news_blk #[.int .u8 91] (alloc_at1 _ _ _) | exact news_blk #[.int .u8 91] (alloc_at0 _ _ _)) (one_one 91) (by omega) (by unfold maxLen; omega) (by omega) (by first | exact hP.2.1 | exact (hP.alloc _).2.1 | exact ((hP.alloc _).alloc _).2.1) _ rfl ?_; intro gA cA wA hoA hgA hatA hltA; have hKA := PW.ks (l := l) (c := 91) (by first | exact hP | exact hP.alloc _ | exact (hP.alloc _).alloc _) HXS.out.symm hoA hgA hatA; have hnA := some_ne (hKA.ne hnv hHlt)) | (go_at_call 22; refine (HKIDS.out _ _ _ _ (by first | exact hKA | exact hKA.alloc _)).mono ?_; rintro e wB ⟨gB, mB, cB, rfl, hoB, hgB, hatB⟩; have hKB := KS.app (by first | exact hKA | exact hKA.alloc _) rfl (List.map_append ..) hoB hgB hatB; have hnB := some_ne (hKB.ne hnv hHlt); have hmB : mB + 1 ≤ 1000000 := by rw [← hKB.len]; exact HLB.out) | (refine step_append_lies _ rfl (.tmp 20) (.tmp 21) 36 rfl base 5 i0 _ 1 1 Tryz.underlying36 hi hz0 hz1 hz2 rfl (by decide) (.slice (some ⟨gB, 0, none⟩) mB cB) mB _ rfl (by first | exact hKB.1 | exact (hKB.alloc _).1) _ 1 1 [.int .u8 93] rfl rfl (by first | exact news_blk #[.int .u8 93] (alloc_at _ _) | exact news_blk #[.int .u8 93] (zz_new hgB hKA.lt.2) | exact news_blk #[.int .u8 93] (zz_old hgA hgB hatA hvl (alloc_at1 _ _ _) (Nat.le_succ _)) | exact news_blk #[.int .u8 93] (zz_old hgA hgB hatA hvl (alloc_at0 _ _ _) (Nat.le_refl _))) (one_one 93) (by omega) (by unfold maxLen; omega) (by omega) (by first | exact Nat.le_trans hb1 hKB.2.1.size | exact Nat.le_trans hb1 (hKB.alloc _).2.1.size) _ rfl ?_; intro gC cC wC hoC hgC hatC hltC; have hKC := KS.app (x := [93]) (by first | exact hKB | exact hKB.alloc _) rfl rfl hoC hgC (hatC.imp id fun e => Nat.le_of_eq e.symm)))
  all_goals
    have HK := Lib.hid hKC
    go_wp2
    go_ret
    have h9 := HK.out.done HAL.out rfl
    rw [HEQ.out] at h9
    exact h9
set_option maxRecDepth 100000 in
set_option maxHeartbeats 8000000 in
theorem AF_map (N : Nat) (ih : AFof N) (t : L8) (ks : List L8) (ds : List Nd) (hkl : ks.length = ds.length) (hN : cntL ds ≤ N) (hf : ∀ d ∈ ds, Fine d) (l : L8) (n base : Nat) (v c0 c1 c2 c3 : Value) (w : World) (ho : w.ownsRow base 5 1 v n (l.map encB)) (hb : base ≤ w.heap.size) (hd : NdC (· < base) w (.mk 3 t ks ds) c0 c1 c2 c3) (hs : l.length + (wrT (.mk 3 t ks ds)).length ≤ 1000000) :
    Calls Tryz.prog 15 #[v, .agg #[c0, c1, c2, c3]] w fun e w' => Apd w w' base v (l ++ wrT (.mk 3 t ks ds)) e := by
  obtain ⟨i0, hi, hz0, hz1, hz2⟩ := infoB
  have hll := own_len ho
  obtain ⟨k0, T, a, na, ca, A, mA, qA, rfl, rfl, rfl, rfl⟩ := hd.cellsOk
  have hc := hd
  rw [NdC] at hc
  obtain ⟨h0, -⟩ := hc
  injection h0 with _ h0
  subst h0
  obtain ⟨W1, hW1⟩ : ∃ W1, w.alloc (.cells #[.int .i64 3, .string T, .slice a na ca, .slice A mA qA] 25) = W1 := ⟨_, rfl⟩
  have hal : w.grownBy W1 v.ownBlock := by rw [← hW1]; exact World.grownBy_alloc w _ _
  have hX : Row4 W1 w.heap.size 25 (.int .i64 3) (.string T) (.slice a na ca) (.slice A mA qA) := by rw [← hW1]; exact Row4.make w _ _ _ _ _
  have hvl0 := ownb_lt ho
  have hs1 : W1.heap.size = w.heap.size + 1 := by rw [← hW1]; simp
  have hvl : ∀ k, v.ownBlock = some k → k < W1.heap.size := fun k e => by have := (hvl0 k e).2; omega
  have hnv : v.ownBlock ≠ some w.heap.size := fun e => by have := (hvl0 _ e).2; omega
  have hHlt : w.heap.size < W1.heap.size := by omega
  have hb1 : base ≤ W1.heap.size := by omega
  have hd1 : NdC (· < base) W1 (.mk 3 t ks ds) (.int .i64 3) (.string T) (.slice a na ca) (.slice A mA qA) := by
    rw [← hW1]; exact NdC.keep (fun b hx => ⟨hx, Below.heap_alloc w _ b (by have : b < base := hx; omega)⟩) _ hd
  rw [wrT_map] at hs ⊢
  have HLB : Hid (((l ++ [123]) ++ wrM ks ds).length + 1 ≤ 1000000) := Lib.hid (by
    simp only [List.length_append, List.length_cons, List.length_nil] at hs ⊢
    omega)
  have HKIDS := Lib.hid (fun W g m cap (h : KS W1 base v.ownBlock W g m cap (l ++ [123])) => AK_map N ih t ks ds hkl hN hf (l ++ [123]) m base g cap _ _ _ _ W h.1 (Nat.le_trans hb1 h.2.1.size) (gro_nd h.2.1 hb1 (fun k e => (hvl0 k e).1) hd1) (by have := HLB.out; rw [List.length_append] at this; omega))
  obtain ⟨XS, hXS⟩ : ∃ XS, l.map encB = XS := ⟨_, rfl⟩
  have HXS := Lib.hid hXS
  have hP : PW W1 base v n XS W1.drew := ⟨below_drew W1, hb1, by rw [← hXS, ← hW1]; exact ho.alloc _⟩
  have HAL := Lib.hid hal
  have HEQ : Hid (((l ++ [123]) ++ wrM ks ds) ++ [125] = l ++ (123 :: wrM ks ds ++ [125])) := Lib.hid (by simp)
  have hC4 : Cells4 w.heap.size (.int .i64 3) (.string T) (.slice a na ca) (.slice A mA qA) W1.drew := ⟨hX.lt, hX.cells⟩
  obtain ⟨x0, x1, x2, x3⟩ := hX.cells
  have hnl : n ≤ 1000000 := by omega
  clear hd hd1 ho hal hX hs hN hf ih hXS hvl0 hll hs1 hkl
  go_enter Tryz.func15, Tryz.ntmps15
  go_upto_region 1 with fail
  clear hW1
  go_upto_region 7 with fail
  go_region_held3 (fun W => w.heap.size < W.heap.size ∧ W.cell? ⟨w.heap.size, 0, none⟩ = some (.int .i64 3) ∧ W.cell? ⟨w.heap.size, 1, none⟩ = some (.string T) ∧ W.cell? ⟨w.heap.size, 2, none⟩ = some (.slice a na ca) ∧ W.cell? ⟨w.heap.size, 3, none⟩ = some (.slice A mA qA)) (first | exact hC4 | assumption | exact keep4_alloc (by assumption) | exact keep4_grown hgA hnv (by assumption) | exact keep4_grown hgB hnA (by assumption) | exact keep4_grown hgC hnB (by assumption)) (first | (refine step_append_lies _ rfl (.tmp 25) (.tmp 26) 36 rfl base 5 i0 _ 1 1 Tryz.underlying36 hi hz0 hz1 hz2 rfl (by decide) v n XS rfl (by first | exact hP.2.2 | exact (hP.alloc _).2.2 | exact ((hP.alloc _).alloc _).2.2) _ 1 1 [.int .u8 123] rfl rfl (by first | exact news_blk #[.int .u8 123] (alloc_at _ _) | exact news_blk #[.int .u8 123] (alloc_at1 _ _ _) | exact news_blk #[.int .u8 123] (alloc_at0 _ _ _)) (one_one 123) (by omega) (by unfold maxLen; omega) (by omega) (by first | exact hP.2.1 | exact (hP.alloc _).2.1 | exact ((hP.alloc _).alloc _).2.1) _ rfl ?_; intro gA cA wA hoA hgA hatA hltA; have hKA := PW.ks (l := l) (c := 123) (by first | exact hP | exact hP.alloc _ | exact (hP.alloc _).alloc _) HXS.out.symm hoA hgA hatA; have hnA := some_ne (hKA.ne hnv hHlt)) | (go_at_call 22; refine (HKIDS.out _ _ _ _ (by first | exact hKA | exact hKA.alloc _)).mono ?_; rintro e wB ⟨gB, mB, cB, rfl, hoB, hgB, hatB⟩; have hKB := KS.app (by first | exact hKA | exact hKA.alloc _) rfl (List.map_append ..) hoB hgB hatB; have hnB := some_ne (hKB.ne hnv hHlt); have hmB : mB + 1 ≤ 1000000 := by rw [← hKB.len]; exact HLB.out) | (refine step_append_lies _ rfl (.tmp 29) (.tmp 30) 36 rfl base 5 i0 _ 1 1 Tryz.underlying36 hi hz0 hz1 hz2 rfl (by decide) (.slice (some ⟨gB, 0, none⟩) mB cB) mB _ rfl (by first | exact hKB.1 | exact (hKB.alloc _).1) _ 1 1 [.int .u8 125] rfl rfl (by first | exact news_blk #[.int .u8 125] (alloc_at _ _) | exact news_blk #[.int .u8 125] (zz_new hgB hKA.lt.2) | exact news_blk #[.int .u8 125] (zz_old hgA hgB hatA hvl (alloc_at1 _ _ _) (Nat.le_succ _)) | exact news_blk #[.int .u8 125] (zz_old hgA hgB hatA hvl (alloc_at0 _ _ _) (Nat.le_refl _))) (one_one 125) (by omega) (by unfold maxLen; omega) (by omega) (by first | exact Nat.le_trans hb1 hKB.2.1.size | exact Nat.le_trans hb1 (hKB.alloc _).2.1.size) _ rfl ?_; intro gC cC wC hoC hgC hatC hltC; have hKC := KS.app (x := [125]) (by first | exact hKB | exact hKB.alloc _) rfl rfl hoC hgC (hatC.imp id fun e => Nat.le_of_eq e.symm)))
  all_goals
    have HK := Lib.hid hKC
    go_wp2
    go_ret
    have h9 := HK.out.done HAL.out rfl
    rw [HEQ.out] at h9
    exact h9
end Go.Proofs.YtemndagaicamiaaGreatDoor
