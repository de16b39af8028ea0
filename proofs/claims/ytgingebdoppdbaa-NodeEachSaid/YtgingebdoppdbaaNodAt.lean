/- The contracts of the program's child and At. -/
import Derived.Test.YtgingebdoppdbaaNodGet2
namespace Go.Proofs.Ytgingebdoppdbaa
open Go.RowKit Go.Sort
open Nw N8
open Dg
set_option linter.unusedVariables false
namespace N8
theorem count_in {x : L8} {most : Int} (h : countE x most = 0) : 0 ≤ countN x most ∧ countN x most ≤ most := by
  refine ⟨count_nonneg x most, ?_⟩
  unfold countE at h
  unfold countN
  by_cases h0 : most < 0
  · rw [if_pos h0] at h; exact absurd h (by decide)
  · rw [if_neg h0] at h ⊢
    by_cases hw : whole x = true
    · rw [if_pos hw] at h ⊢
      by_cases hv : (val x : Int) ≤ most
      · rw [valN_ok hv]; exact hv
      · rw [valE_big (by omega)] at h; exact absurd h (by decide)
    · rw [if_neg hw] at h; exact absurd h (by decide)
end N8
theorem NdC.len {S : Nat → Prop} {w : World} {d : Nd} {k : Int} {s : ByteArray} {a : Option Addr} {n c : Nat} {A : Option Addr} {m q : Nat} (h : NdC S w d (.int .i64 k) (.string s) (.slice a n c) (.slice A m q)) : d.kind = k ∧ d.keys.length = n ∧ d.kids.length = m ∧ m ≤ maxLen := by
  cases d with
  | mk k' t' ks' ds' =>
    rw [NdC] at h
    obtain ⟨h0, h1, ⟨a', c', h2, _⟩, A', cap', h3, h4, h5, _⟩ := h
    injection h0 with _ h0
    injection h2 with _ h2
    injection h3 with _ h3
    exact ⟨h0.symm, h2.symm, h3.symm, by rw [h3]; exact Nat.le_trans h4 h5⟩
theorem NdC.kid2 {S : Nat → Prop} {w : World} {d : Nd} {c0 c1 c2 : Value} {A : Option Addr} {n cap : Nat} (h : NdC S w d c0 c1 c2 (.slice A n cap)) (j : Nat) (hj : j < d.kids.length) :
    ∃ (b o : Nat) (e0 e1 e2 e3 : Value), A = some ⟨b, o, none⟩ ∧ S b ∧ w.cell? ⟨b, o + j * 4, none⟩ = some e0 ∧ w.cell? ⟨b, o + j * 4 + 1, none⟩ = some e1 ∧
        w.cell? ⟨b, o + j * 4 + 2, none⟩ = some e2 ∧ w.cell? ⟨b, o + j * 4 + 3, none⟩ = some e3 ∧ NdC S w (d.kids[j]'hj) e0 e1 e2 e3 := by
  cases d with
  | mk k' t' ks' ds' => exact NdC.kid h j hj
set_option maxRecDepth 100000 in
set_option maxHeartbeats 4000000 in
theorem child_any (S : Nat → Prop) (d : Nd) (x : ByteArray) (hx : x.size ≤ maxLen) (hl : d.kind = 3 → d.keys.length = d.kids.length) (r : Option Nd) (hr : hopP d x.data.toList = r) (c0 c1 c2 c3 : Value) (w : World) (hS : ∀ b, S b → b < w.heap.size) (hd : NdC S w d c0 c1 c2 c3) :
    Calls Try.prog 35 #[.agg #[c0, c1, c2, c3], .string x] w (GotN S w r) := by
  have HB := Lib.hid (BxS.make hd hS)
  have HS := Lib.hid hS
  have HR := Lib.hid hr
  obtain ⟨k, s, a, n, c, A, m, q, rfl, rfl, rfl, rfl⟩ := (hd.all hS).shape
  obtain ⟨hk, -, hm, hmm⟩ := hd.len
  have HM := Lib.hid hm
  have HK := Lib.hid hk
  obtain ⟨x0, x1, x2, x3⟩ := HB.out.2.1.cells
  by_cases hk2 : k = 2
  · subst hk2
    unfold maxLen at hmm
    have el : IntKind.i64.wrap ((m : Int) - 1) = (m : Int) - 1 := IntWalk.i64_in _ (by omega)
    obtain ⟨M, hM⟩ : ∃ M, (m : Int) - 1 = M := ⟨_, rfl⟩
    have HCT := Lib.hid (fun W => DCount_any x M W hx (by omega) (by omega))
    obtain ⟨CN, hCN⟩ : ∃ c, countN x.data.toList M = c := ⟨_, rfl⟩
    obtain ⟨CE, hCE⟩ : ∃ c, countE x.data.toList M = c := ⟨_, rfl⟩
    rw [hCN, hCE] at HCT
    have HH : Hid (hopP d x.data.toList = if CE = 0 then d.kids[CN.toNat]? else none) := Lib.hid (by rw [hopP, if_pos hk, hm, hM, hCE, hCN])
    have hin := fun h : CE = 0 => count_in (x := x.data.toList) (most := M) (by rw [hCE]; exact h)
    rw [hCN] at hin
    rw [hM] at el
    have hd9 := HB.out.2.2.2
    by_cases hce : CE = 0
    · subst hce
      obtain ⟨h1, h2⟩ := hin rfl
      obtain ⟨j, rfl⟩ : ∃ j : Nat, CN = (j : Int) := ⟨CN.toNat, by omega⟩
      have hjd : j < d.kids.length := by rw [hm]; omega
      have HE : Hid (r = some (d.kids[j]'hjd)) := Lib.hid (by rw [← HR.out, HH.out, if_pos rfl, Int.toNat_natCast, List.getElem?_eq_getElem hjd])
      obtain ⟨b, o, e0, e1, e2, e3, rfl, hbS, y0, y1, y2, y3, hnd⟩ := hd9.kid2 j hjd
      obtain ⟨k', s', a', n', c', A', m', q', rfl, rfl, rfl, rfl⟩ := (hnd.all fun b hs => Nat.lt_of_lt_of_le (HS.out b hs) HB.out.1.size).shape
      have hjz : (j : Int) < (m : Int) := by omega
      have HX8 := Lib.hid (below_put4 HB.out.1 (g := w.heap.size + 1) (by omega) (.int .i64 k') (.string s') (.slice a' n' c') (.slice A' m' q'))
      have HND := Lib.hid (hnd.put (g := w.heap.size + 1) (fun b hs => by have := HS.out b hs; omega) (.int .i64 k') (.string s') (.slice a' n' c') (.slice A' m' q'))
      obtain ⟨z0, z1, z2, z3⟩ := HB.out.2.2.1.cells
      obtain ⟨fz0, fz1, fz2, fz3⟩ := HB.out.2.2.1.frozen
      generalize hW0 : (w.alloc (.cells #[.int .i64 2, .string s, .slice a n c, .slice (some ⟨b, o, none⟩) m q] 25)).alloc (.cells #[.int .i64 0, .string ⟨#[]⟩, .slice none 0 0, .slice none 0 0] 25) = W0 at *
      clear hnd hd9 hin hr hd hS hCN hCE hk hm
      go_enter Try.func35, Try.ntmps35
      go_wp2_with fail
      refine (HCT.out _).mono ?_
      rintro e w2 ⟨rfl, rfl⟩
      go_wp2
      refine bodyPost_ret (v := .tuple #[.agg #[.int .i64 k', .string s', .slice a' n' c', .slice A' m' q'], .bool true]) (by simp [results, Try.results35, go_sem, z0, z1, z2, z3]) rfl ⟨_, _, _, _, by rw [HE.out]; rfl, HX8.out, by rw [HE.out]; exact HND.out⟩
    · have HE : Hid (r = none) := Lib.hid (by rw [← HR.out, HH.out, if_neg hce])
      have p5 : (CE != 0) = true := bne_iff_ne.2 hce
      have HX8 := Lib.hid (below_put4 HB.out.1 (g := w.heap.size + 1) (by omega) (.int .i64 0) (.string ⟨#[]⟩) (.slice none 0 0) (.slice none 0 0))
      obtain ⟨z0, z1, z2, z3⟩ := HB.out.2.2.1.cells
      obtain ⟨fz0, fz1, fz2, fz3⟩ := HB.out.2.2.1.frozen
      generalize hW0 : (w.alloc (.cells #[.int .i64 2, .string s, .slice a n c, .slice A m q] 25)).alloc (.cells #[.int .i64 0, .string ⟨#[]⟩, .slice none 0 0, .slice none 0 0] 25) = W0 at *
      clear hd9 hin hr hd hS hCN hCE hk hm
      go_enter Try.func35, Try.ntmps35
      go_wp2_with fail
      refine (HCT.out _).mono ?_
      rintro e w2 ⟨rfl, rfl⟩
      go_wp2
      refine bodyPost_ret (v := .tuple #[.agg #[.int .i64 0, .string ⟨#[]⟩, .slice none 0 0, .slice none 0 0], .bool false]) (by simp [results, Try.results35, go_sem, z0, z1, z2, z3]) rfl ⟨_, _, _, _, by rw [HE.out]; rfl, HX8.out, by rw [HE.out]; exact nd_nul _ _⟩
  · have p2 : (k != 2) = true := bne_iff_ne.2 hk2
    have hS2 : ∀ b, S b → b < ((w.alloc (.cells #[.int .i64 k, .string s, .slice a n c, .slice A m q] 25)).alloc (.cells #[.int .i64 0, .string ⟨#[]⟩, .slice none 0 0, .slice none 0 0] 25)).heap.size := fun b hs => Nat.lt_of_lt_of_le (hS b hs) HB.out.1.size
    have HG := Lib.hid (Get_any S d x hl r (by rw [← hr, hopP, if_neg (by rw [hk]; exact hk2)]) _ _ _ _ _ hS2 HB.out.2.2.2)
    generalize hW0 : (w.alloc (.cells #[.int .i64 k, .string s, .slice a n c, .slice A m q] 25)).alloc (.cells #[.int .i64 0, .string ⟨#[]⟩, .slice none 0 0, .slice none 0 0] 25) = W0 at *
    clear hd hr hS2 hk hk2
    go_enter Try.func35, Try.ntmps35
    go_wp2_with fail
    refine HG.out.mono ?_
    rintro e w2 ⟨u0, u1, u2, u3, rfl, hb2, hn2⟩
    have HB2 := Lib.hid (HB.out.go HS.out hb2)
    have hsz : ∀ b, S b → b < w2.heap.size := fun b hs => Nat.lt_of_lt_of_le (HS.out b hs) HB2.out.1.size
    obtain ⟨k', s', a', n', c', A', m', q', rfl, rfl, rfl, rfl⟩ := (hn2.all hsz).shape
    obtain ⟨z0, z1, z2, z3⟩ := HB2.out.2.2.1.cells
    obtain ⟨fz0, fz1, fz2, fz3⟩ := HB2.out.2.2.1.frozen
    have HX8 := Lib.hid (below_put4 HB2.out.1 (g := w.heap.size + 1) (by omega) (.int .i64 k') (.string s') (.slice a' n' c') (.slice A' m' q'))
    have HND := Lib.hid (hn2.put (g := w.heap.size + 1) (fun b hs => by have := HS.out b hs; omega) (.int .i64 k') (.string s') (.slice a' n' c') (.slice A' m' q'))
    obtain ⟨B, hB⟩ : ∃ B, r.isSome = B := ⟨_, rfl⟩
    have HBB := Lib.hid hB
    rw [hB]
    clear hB hn2 hb2 x0 x1 x2 x3
    go_wp2
    refine bodyPost_ret (v := .tuple #[.agg #[.int .i64 k', .string s', .slice a' n' c', .slice A' m' q'], .bool B]) (by simp [results, Try.results35, go_sem, z0, z1, z2, z3]) rfl ⟨_, _, _, _, by rw [HBB.out], HX8.out, HND.out⟩
end Go.Proofs.Ytgingebdoppdbaa
