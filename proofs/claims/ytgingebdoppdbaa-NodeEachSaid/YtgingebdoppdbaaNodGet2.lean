/- The contracts of the program's Get and child. -/
import Derived.Test.YtgingebdoppdbaaNodGet
namespace Go.Proofs.Ytgingebdoppdbaa
open Go.RowKit Go.Sort
open Nw N8
open Dg
set_option linter.unusedVariables false
namespace N8
theorem FoundK.cases {d : Nd} {x : L8} {r : Int} (h : FoundK d x r) : (r = -1 ∧ getT d x = none) ∨ ∃ (j : Nat) (hd : j < d.kids.length), r = (j : Int) ∧ j < d.keys.length ∧ d.kind = 3 ∧ getT d x = some (d.kids[j]'hd) := by
  cases h with
  | no h hk => exact .inl ⟨rfl, h⟩
  | yes j hk hj hd he hn h => exact .inr ⟨j, hd, rfl, hj, hk, h⟩
/-- One step of a path, with the count's bound as the program has it. -/
def hopP (d : Nd) (x : L8) : Option Nd :=
  if d.kind = 2 then (if countE x ((d.kids.length : Int) - 1) = 0 then d.kids[(countN x ((d.kids.length : Int) - 1)).toNat]? else none) else getT d x
theorem hopP_eq {d : Nd} (x : L8) (h : d.kids.length ≤ 100000) : hopP d x = hopT d x := by
  unfold hopP hopT
  by_cases hk : d.kind = 2
  · rw [if_pos hk, if_pos hk]
    unfold countE countN
    by_cases h0 : (d.kids.length : Int) - 1 < 0
    · rw [if_pos h0, if_neg (by decide), if_neg]
      rintro ⟨-, h2⟩
      have h3 := count_nonneg x 100000
      unfold countN at h3
      omega
    · rw [if_neg h0, if_neg h0, if_neg (by decide : ¬ (100000 : Int) < 0), if_neg (by decide : ¬ (100000 : Int) < 0)]
      by_cases hw : whole x = true
      · rw [if_pos hw, if_pos hw, if_pos hw, if_pos hw]
        by_cases hv : (val x : Int) ≤ (d.kids.length : Int) - 1
        · rw [valE_ok hv, valN_ok hv, valE_ok (by omega), valN_ok (by omega), if_pos rfl, if_pos ⟨rfl, by omega⟩]
        · rw [valE_big (by omega), if_neg (by decide), if_neg]
          rintro ⟨h1, h2⟩
          by_cases hb : (val x : Int) ≤ 100000
          · rw [valN_ok hb] at h2; omega
          · rw [valE_big (by omega)] at h1; exact absurd h1 (by decide)
      · rw [if_neg hw, if_neg hw, if_neg hw, if_neg hw, if_neg (by decide), if_neg (by rintro ⟨h1, -⟩; exact absurd h1 (by decide))]
  · rw [if_neg hk, if_neg hk]
end N8
/-- A box, the result's box, and the node: as AtB, over a set S of blocks. -/
def BxS (S : Nat → Prop) (w W : World) (d : Nd) (c0 c1 c2 c3 : Value) : Prop :=
  Below w.heap.size w W ∧ Row4 W w.heap.size 25 c0 c1 c2 c3 ∧ Row4 W (w.heap.size + 1) 25 (.int .i64 0) (.string ⟨#[]⟩) (.slice none 0 0) (.slice none 0 0) ∧ NdC S W d c0 c1 c2 c3
theorem BxS.make {S : Nat → Prop} {w : World} {d : Nd} {c0 c1 c2 c3 : Value} (h : NdC S w d c0 c1 c2 c3) (hS : ∀ b, S b → b < w.heap.size) :
    BxS S w ((w.alloc (.cells #[c0, c1, c2, c3] 25)).alloc (.cells #[.int .i64 0, .string ⟨#[]⟩, .slice none 0 0, .slice none 0 0] 25)) d c0 c1 c2 c3 := by
  have h2 := Boxed2.make (h.all hS) (show NdW w nul (.int .i64 0) (.string ⟨#[]⟩) (.slice none 0 0) (.slice none 0 0) from nd_nul _ w)
  exact ⟨h2.1, h2.2.1, h2.2.2.1, h.old hS h2.1⟩
theorem BxS.go {S : Nat → Prop} {w W W' : World} {d : Nd} {c0 c1 c2 c3 : Value} (h : BxS S w W d c0 c1 c2 c3) (hS : ∀ b, S b → b < w.heap.size) (hb : Below W.heap.size W W') : BxS S w W' d c0 c1 c2 c3 :=
  ⟨h.1.trans (hb.mono h.1.size), h.2.1.below hb h.2.1.lt, h.2.2.1.below hb h.2.2.1.lt, h.2.2.2.old (fun b hs => Nat.lt_of_lt_of_le (hS b hs) h.1.size) hb⟩
theorem BxS.all {S : Nat → Prop} {w W : World} {d : Nd} {c0 c1 c2 c3 : Value} (h : BxS S w W d c0 c1 c2 c3) (hS : ∀ b, S b → b < w.heap.size) : NdW W d c0 c1 c2 c3 :=
  h.2.2.2.all fun b hs => Nat.lt_of_lt_of_le (hS b hs) h.1.size
theorem put4_oth {w : World} {g : Nat} (b : Nat) (hb : b ≠ g) (a' b' c' d' : Value) : (put4 w g a' b' c' d').heap[b]? = w.heap[b]? := by
  unfold put4
  rw [Below.heap_setCell _ _ _ _ (by show b ≠ g; omega), Below.heap_setCell _ _ _ _ (by show b ≠ g; omega), Below.heap_setCell _ _ _ _ (by show b ≠ g; omega), Below.heap_setCell _ _ _ _ (by show b ≠ g; omega)]
theorem NdC.put {S : Nat → Prop} {w : World} {g : Nat} {d : Nd} {c0 c1 c2 c3 : Value} (h : NdC S w d c0 c1 c2 c3) (hg : ∀ b, S b → b ≠ g) (a' b' c' d' : Value) : NdC S (put4 w g a' b' c' d') d c0 c1 c2 c3 :=
  NdC.keep (fun b hs => ⟨hs, put4_oth b (hg b hs) _ _ _ _⟩) d h
set_option maxRecDepth 100000 in
set_option maxHeartbeats 4000000 in
theorem Get_any (S : Nat → Prop) (d : Nd) (x : ByteArray) (hl : d.kind = 3 → d.keys.length = d.kids.length) (r : Option Nd) (hr : getT d x.data.toList = r) (c0 c1 c2 c3 : Value) (w : World) (hS : ∀ b, S b → b < w.heap.size) (hd : NdC S w d c0 c1 c2 c3) :
    Calls Try.prog 8 #[.agg #[c0, c1, c2, c3], .string x] w (GotN S w r) := by
  have HB0 := Lib.hid (BxS.make hd hS)
  have HS := Lib.hid hS
  have HR := Lib.hid hr
  have HF := Lib.hid (fun W hW => find_any d x hl c0 c1 c2 c3 W hW)
  obtain ⟨k, s, a, n, c, A, m, q, rfl, rfl, rfl, rfl⟩ := (hd.all hS).shape
  clear hr hd hS hl
  go_enter Try.func8, Try.ntmps8
  obtain ⟨x0, x1, x2, x3⟩ := HB0.out.2.1.cells
  go_wp2_with fail
  refine (HF.out _ (HB0.out.all HS.out)).mono ?_
  rintro e w2 ⟨i, rfl, hf, hb2⟩
  have HB := Lib.hid (HB0.out.go HS.out hb2)
  clear hb2 HB0 x0 x1 x2 x3
  obtain ⟨x0, x1, x2, x3⟩ := HB.out.2.1.cells
  obtain ⟨z0, z1, z2, z3⟩ := HB.out.2.2.1.cells
  obtain ⟨fz0, fz1, fz2, fz3⟩ := HB.out.2.2.1.frozen
  rcases hf.cases with ⟨rfl, hg⟩ | ⟨j, hdj, rfl, hj, hk3, hg⟩
  · have HE : Hid (r = none) := Lib.hid (by rw [← HR.out, hg])
    have HX8 := Lib.hid (below_put4 HB.out.1 (g := w.heap.size + 1) (by omega) (.int .i64 0) (.string ⟨#[]⟩) (.slice none 0 0) (.slice none 0 0))
    clear hf hg
    go_wp2
    refine bodyPost_ret (v := .tuple #[.agg #[.int .i64 0, .string ⟨#[]⟩, .slice none 0 0, .slice none 0 0], .bool false]) (by simp [results, Try.results8, go_sem, z0, z1, z2, z3]) rfl ⟨_, _, _, _, by rw [HE.out]; rfl, HX8.out, by rw [HE.out]; exact nd_nul _ _⟩
  · have HE : Hid (r = some (d.kids[j]'hdj)) := Lib.hid (by rw [← HR.out, hg])
    have hkid : ∃ (b o : Nat) (e0 e1 e2 e3 : Value), A = some ⟨b, o, none⟩ ∧ S b ∧ w2.cell? ⟨b, o + j * 4, none⟩ = some e0 ∧ w2.cell? ⟨b, o + j * 4 + 1, none⟩ = some e1 ∧
        w2.cell? ⟨b, o + j * 4 + 2, none⟩ = some e2 ∧ w2.cell? ⟨b, o + j * 4 + 3, none⟩ = some e3 ∧ NdC S w2 (d.kids[j]'hdj) e0 e1 e2 e3 ∧ j < m := by
      have h := HB.out.2.2.2
      cases d with
      | mk k' t' ks' ds' =>
        obtain ⟨b, o, e0, e1, e2, e3, h1, h2, h3, h4, h5, h6, h7⟩ := NdC.kid h j hdj
        rw [NdC] at h
        obtain ⟨-, -, -, A', cap', hA', -⟩ := h
        have hm : m = ds'.length := by injection hA'
        exact ⟨b, o, e0, e1, e2, e3, h1, h2, h3, h4, h5, h6, h7, by rw [hm]; exact hdj⟩
    obtain ⟨b, o, e0, e1, e2, e3, rfl, hbS, y0, y1, y2, y3, hnd, hjm⟩ := hkid
    obtain ⟨k', s', a', n', c', A', m', q', rfl, rfl, rfl, rfl⟩ := (hnd.all fun b hs => Nat.lt_of_lt_of_le (HS.out b hs) HB.out.1.size).shape
    have hjz : (j : Int) < (m : Int) := by omega
    have HX8 := Lib.hid (below_put4 HB.out.1 (g := w.heap.size + 1) (by omega) (.int .i64 k') (.string s') (.slice a' n' c') (.slice A' m' q'))
    have HND := Lib.hid (hnd.put (g := w.heap.size + 1) (fun b hs => by have := HS.out b hs; omega) (.int .i64 k') (.string s') (.slice a' n' c') (.slice A' m' q'))
    have gj : ¬ (j : Int) < 0 := by omega
    clear hf hg hnd
    go_wp2
    refine bodyPost_ret (v := .tuple #[.agg #[.int .i64 k', .string s', .slice a' n' c', .slice A' m' q'], .bool true]) (by simp [results, Try.results8, go_sem, z0, z1, z2, z3]) rfl ⟨_, _, _, _, by rw [HE.out]; rfl, HX8.out, by rw [HE.out]; exact HND.out⟩
end Go.Proofs.Ytgingebdoppdbaa
