/- The program's Write: what it appends for a node; its contract. -/
import Derived.Test.YtemndagaicamiaaGreatDoorFloApp
import Derived.Test.YtemndagaicamiaaGreatDoorRefWri
namespace Go.Proofs.YtemndagaicamiaaGreatDoor
open Go.RowKit Go.Sort
open Nw N8 Q6 F9 Go.ChangeShapes Go.WideShapes
set_option linter.unusedVariables false
/-- What appendForm gives, at nodes of at most N nodes. -/
def AFof (N : Nat) : Prop := ∀ (d : Nd), cntT d ≤ N → Fine d → ∀ (l : L8) (n base : Nat) (v c0 c1 c2 c3 : Value) (w : World), w.ownsRow base 5 1 v n (l.map encB) → base ≤ w.heap.size → NdC (· < base) w d c0 c1 c2 c3 → l.length + (wrT d).length ≤ 1000000 →
    Calls Tryz.prog 15 #[v, .agg #[c0, c1, c2, c3]] w fun e w' => Apd w w' base v (l ++ wrT d) e
theorem ownb_lt {w : World} {base n : Nat} {v : Value} {xs : List Value} (h : w.ownsRow base 5 1 v n xs) : ∀ g, v.ownBlock = some g → base ≤ g ∧ g < w.heap.size := fun g hg => h.lt g hg
/-- What a slice that may be nil turns into. -/
theorem ks_first {W1 w' : World} {base g2 m2 cap2 : Nat} {v : Value} {l x L' : L8} {xs : List Value} (hL : L' = l ++ x) (hxs : xs = l.map encB ++ x.map encB)
    (ho : w'.ownsRow base 5 1 (.slice (some ⟨g2, 0, none⟩) m2 cap2) m2 xs) (hg : W1.grownBy w' v.ownBlock) (hat : v.ownBlock = some g2 ∨ W1.heap.size ≤ g2) : KS W1 base v.ownBlock w' g2 m2 cap2 L' := by
  subst hL; subst hxs
  rw [← List.map_append] at ho
  exact ⟨ho, hg, hat⟩
set_option maxRecDepth 100000 in
set_option maxHeartbeats 8000000 in
theorem AF_leaf (k : Int) (t : L8) (ks : List L8) (ds : List Nd) (hk : k = 0 ∨ k = 1) (l : L8) (n base : Nat) (v c0 c1 c2 c3 : Value) (w : World) (ho : w.ownsRow base 5 1 v n (l.map encB)) (hb : base ≤ w.heap.size) (hd : NdC (· < base) w (.mk k t ks ds) c0 c1 c2 c3) (hs : l.length + (wrT (.mk k t ks ds)).length ≤ 1000000) :
    Calls Tryz.prog 15 #[v, .agg #[c0, c1, c2, c3]] w fun e w' => Apd w w' base v (l ++ wrT (.mk k t ks ds)) e := by
  obtain ⟨i0, hi, hz0, hz1, hz2⟩ := infoB
  have hll := own_len ho
  obtain ⟨k0, T, a, na, ca, A, mA, qA, e0, e1, e2, e3⟩ := hd.cellsOk
  have hc := hd
  rw [NdC] at hc
  obtain ⟨h0, h1, -⟩ := hc
  rw [e0] at h0
  rw [e1] at h1
  injection h0 with _ h0
  injection h1 with h1
  subst h0; subst e0; subst e1; subst e2; subst e3
  have hTt : T.data.toList = t := by rw [h1, ba_data]
  have hal : w.grownBy (w.alloc (.cells #[.int .i64 k0, .string T, .slice a na ca, .slice A mA qA] 25)) v.ownBlock := World.grownBy_alloc w _ _
  have HAL := Lib.hid hal
  have HO1 := Lib.hid (ho.alloc (.cells #[.int .i64 k0, .string T, .slice a na ca, .slice A mA qA] 25))
  have HX := Lib.hid (Row4.make w 25 (.int .i64 k0) (.string T) (.slice a na ca) (.slice A mA qA))
  have hb1 : base ≤ (w.alloc (.cells #[.int .i64 k0, .string T, .slice a na ca, .slice A mA qA] 25)).heap.size := by simp; omega
  obtain ⟨x0, x1, x2, x3⟩ := HX.out.cells
  obtain ⟨XS, hXS⟩ : ∃ XS, l.map encB = XS := ⟨_, rfl⟩
  rw [hXS] at HO1
  have HXS := Lib.hid hXS
  rcases hk with rfl | rfl
  · rw [wrT, if_pos rfl] at hs ⊢
    have hs : l.length + 4 ≤ 1000000 := hs
    clear hd ho hal h1 hTt hXS
    go_enter Tryz.func15, Tryz.ntmps15
    go_upto_region 1 with fail
    generalize w.alloc (.cells #[.int .i64 0, .string T, .slice a na ca, .slice A mA qA] 25) = W1 at *
    have ho1 := HO1.out
    go_wp2_with (at_builtin; refine wpList_str_lies rfl _ _ 36 9 rfl base 5 i0 Tryz.underlying36 Tryz.underlying9 hi hz0 hz1 hz2 v n XS rfl ho1 ⟨#[110, 117, 108, 108]⟩ rfl (by have : (⟨#[110, 117, 108, 108]⟩ : ByteArray).size = 4 := rfl; omega) (by have : (⟨#[110, 117, 108, 108]⟩ : ByteArray).size = 4 := rfl; unfold maxLen; omega) (by have : (⟨#[110, 117, 108, 108]⟩ : ByteArray).size = 4 := rfl; omega) hb1 ?_; intro g2 cap2 w2 ho2 hg2 hat2)
    have HK := Lib.hid ((ks_first (L' := l ++ [110, 117, 108, 108]) (x := [110, 117, 108, 108]) rfl (by rw [HXS.out]; rfl) ho2 hg2 hat2).done HAL.out rfl)
    clear ho2 hg2 hat2 ho1
    go_wp2
    go_ret
    exact HK.out
  · rw [wrT, if_neg (by decide), if_pos rfl] at hs ⊢
    obtain ⟨D, hD⟩ : ∃ D : ByteArray, D.data.toList = wtx t := ⟨ba _, ba_data _⟩
    have hDs : D.size = (wtx t).length := size_of_list hD
    have hge := wtx_ge t
    have hTs : T.size ≤ 1000000 := by rw [size_of_list hTt]; omega
    have HW := Lib.hid (fun W => Write_any T true W hTs D (by rw [hTt, wtx_write, hD]))
    have HD := Lib.hid hD
    have hn1 : n + D.size ≤ 1000000 := by omega
    have hn0 : 0 < n + D.size := by
      obtain ⟨c, r, hcr, -⟩ := wtx_first t
      rw [hDs, hcr, List.length_cons]; omega
    clear hd ho hal h1 hTt hXS hs hD hDs hge hTs
    go_enter Tryz.func15, Tryz.ntmps15
    go_upto_region 1 with fail
    generalize w.alloc (.cells #[.int .i64 1, .string T, .slice a na ca, .slice A mA qA] 25) = W1 at *
    go_wp2_with fail
    refine (HW.out _).mono ?_
    rintro e W2 ⟨rfl, hbw⟩
    have ho1 := owns_below HO1.out hbw
    have HAL2 := Lib.hid (gro_below HAL.out hbw)
    have hb2 : base ≤ W2.heap.size := Nat.le_trans hb1 hbw.size
    clear hbw HW HAL
    go_wp2_with (at_builtin; refine wpList_str_lies rfl _ _ 36 9 rfl base 5 i0 Tryz.underlying36 Tryz.underlying9 hi hz0 hz1 hz2 v n XS rfl ho1 D rfl hn0 (by unfold maxLen; omega) (by omega) hb2 ?_; intro g2 cap2 w2 ho2 hg2 hat2)
    have HK := Lib.hid ((ks_first (L' := l ++ wtx t) (x := wtx t) rfl (by rw [HXS.out, ← HD.out]; rfl) ho2 hg2 hat2).done HAL2.out rfl)
    clear ho2 hg2 hat2 ho1
    go_wp2
    go_ret
    exact HK.out
end Go.Proofs.YtemndagaicamiaaGreatDoor
