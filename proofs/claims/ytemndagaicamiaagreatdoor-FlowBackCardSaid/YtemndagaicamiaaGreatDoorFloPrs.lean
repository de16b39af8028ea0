/- The contract of the program's Parse. -/
import Derived.Test.YtemndagaicamiaaGreatDoorFloRd11
import Derived.Test.YtemndagaicamiaaGreatDoorNodRight
import Derived.Test.YtemndagaicamiaaGreatDoorFloLaw
namespace Go.Proofs.YtemndagaicamiaaGreatDoor
open Go.RowKit Go.Sort
open Nw N8 Q6 F9 Go.ChangeShapes Go.WideShapes
set_option linter.unusedVariables false
theorem make_one (W : World) : (Instr.makeSlice 23 (.int .i64 1) (.int .i64 1)).run Tryz.prog W = .ok (.slice (some ⟨W.heap.size, 0, none⟩) 1 1) (W.alloc (.cells #[.int .i64 0, .string ⟨#[]⟩, .slice none 0 0, .slice none 0 0] 25)) := by kernel_rfl
theorem start_st (s : ByteArray) (w : World) (P : Option Nd) (hP : parP s.data.toList = P) :
    ST elm (w.heap.size + 1) (w.heap.size + 1 + 1) s.size s.size P (((w.alloc (.cells #[.int .i64 0, .string ⟨#[]⟩, .slice none 0 0, .slice none 0 0] 25)).alloc (.cells #[.int .i64 0, .string ⟨#[]⟩, .slice none 0 0, .slice none 0 0] 25)).alloc (.cells #[.string s, .slice (some ⟨w.heap.size + 1, 0, none⟩) 1 1] 40)) s ⟨0, [], []⟩ [] := by
  subst hP
  obtain ⟨W1, h1⟩ : ∃ W1, w.alloc (.cells #[.int .i64 0, .string ⟨#[]⟩, .slice none 0 0, .slice none 0 0] 25) = W1 := ⟨_, rfl⟩
  have s1 : W1.heap.size = w.heap.size + 1 := by rw [← h1]; simp
  rw [h1]
  obtain ⟨W2, h2⟩ : ∃ W2, W1.alloc (.cells #[.int .i64 0, .string ⟨#[]⟩, .slice none 0 0, .slice none 0 0] 25) = W2 := ⟨_, rfl⟩
  have s2 : W2.heap.size = w.heap.size + 1 + 1 := by rw [← h2]; simp [s1]
  have b2 : W2.heap[w.heap.size + 1]? = some (.cells #[.int .i64 0, .string ⟨#[]⟩, .slice none 0 0, .slice none 0 0] 25 (0, 0)) := by
    rw [← h2, ← s1]; exact Row4.make W1 _ _ _ _ _
  rw [h2]
  obtain ⟨W3, h3⟩ : ∃ W3, W2.alloc (.cells #[.string s, .slice (some ⟨w.heap.size + 1, 0, none⟩) 1 1] 40) = W3 := ⟨_, rfl⟩
  have s3 : W3.heap.size = w.heap.size + 1 + 1 + 1 := by rw [← h3]; simp [s2]
  have b3 : W3.heap[w.heap.size + 1]? = some (.cells #[.int .i64 0, .string ⟨#[]⟩, .slice none 0 0, .slice none 0 0] 25 (0, 0)) := by
    rw [← h3]; exact (Below.heap_alloc W2 _ _ (by omega)).trans b2
  have c3 : W3.heap[w.heap.size + 1 + 1]? = some (.cells #[.string s, .slice (some ⟨w.heap.size + 1, 0, none⟩) 1 1] 40 (0, 0)) := by
    rw [← h3, ← s2]
    show (W2.heap.push _)[W2.heap.size]? = _
    simp
  rw [h3]
  refine ⟨w.heap.size + 1, 0, 1, 1, w.heap.size + 1 + 1 + 1, ⟨.int .i64 0, .string ⟨#[]⟩, .slice none 0 0, .slice none 0 0⟩, [], ⟨⟨by omega, rfl, rfl, by omega⟩, c3, ⟨rfl, .inr ⟨_, _, _, rfl, Nat.le_refl _, b3, Nat.le_refl _, by unfold maxLen; omega, rfl, rfl⟩⟩, ?_, Nat.le_refl _⟩, hld_start _⟩
  exact ⟨⟨rfl, rfl⟩, World.ownsRow_nil _ _ _ _, ⟨[], World.ownsRow_nil _ _ _ _, rfl, fun j hj => absurd hj (Nat.not_lt_zero _)⟩, fun b hb' => (by cases hb'), fun b hb' => (by cases hb')⟩
/-- The value that has been read, where it lies. -/
theorem rdy_at {b0 g : Nat} {P : Option Nd} {W : World} (h : Rdy b0 g P W) : ∃ (B c1 : Nat) (A : Option Addr) (n c b o : Nat) (k : Int) (t : ByteArray) (a2 : Option Addr) (n2 c2 : Nat) (A2 : Option Addr) (m2 q2 : Nat) (d : Nd),
    W.cell? ⟨g, 1, none⟩ = some (.slice (some ⟨B, 0, none⟩) 1 c1) ∧ W.cell? ⟨B, 3, none⟩ = some (.slice A n c) ∧ 0 < n ∧ A = some ⟨b, o, none⟩ ∧ W.cell? ⟨b, o, none⟩ = some (.int .i64 k) ∧ W.cell? ⟨b, o + 1, none⟩ = some (.string t) ∧
      W.cell? ⟨b, o + 2, none⟩ = some (.slice a2 n2 c2) ∧ W.cell? ⟨b, o + 3, none⟩ = some (.slice A2 m2 q2) ∧ NdC (fun b => g < b ∧ b < W.heap.size) W d (.int .i64 k) (.string t) (.slice a2 n2 c2) (.slice A2 m2 q2) ∧ P = some d := by
  obtain ⟨B, m, n, cap, lo, r, q, qs, f, hR, d, ds, hds, hP⟩ := h
  have hn := hR.nums
  have h0 : ([] : List Fr).length = 0 := rfl
  obtain rfl : m = 0 := by omega
  obtain rfl : n = 1 := by omega
  have c1 := hR.cells.1.2
  have t3 := hR.top.1.2.2.2
  rw [Nat.zero_mul, Nat.zero_add] at t3
  obtain ⟨-, A, c, hqd⟩ := hR.shapes
  obtain ⟨-, -, ⟨ps, hko⟩, -, h6⟩ := hR.2.2.2.1
  have hlo := hR.lt.2.2.2
  have hk : KdS (fun b => g < b ∧ b < W.heap.size) W q.d f.ds := hko.kdS (fun b hb => ⟨by have := hb.1; omega, hb.2.1⟩) fun b hb => ⟨by have := (hko.1.lt b hb).1; omega, (h6 b hb).1⟩
  rw [hqd] at hk t3
  obtain ⟨b, o, e0, e1, e2, e3, hA, -, y0, y1, y2, y3, hN⟩ := hk.kid 0 (by rw [hds]; exact Nat.succ_pos _)
  obtain ⟨k, t, a2, n2, c2, A2, m2, q2, rfl, rfl, rfl, rfl⟩ := hN.cellsOk
  rw [Nat.zero_mul, Nat.add_zero] at y0 y1 y2 y3
  have hd0 : f.ds[0]'(by rw [hds]; exact Nat.succ_pos _) = d := by simp [hds]
  rw [hd0] at hN
  exact ⟨B, cap, A, f.ds.length, c, b, o, k, t, a2, n2, c2, A2, m2, q2, d, c1, t3, by rw [hds]; exact Nat.succ_pos _, hA, y0, y1, y2, y3, hN, hP⟩
set_option maxRecDepth 100000 in
set_option maxHeartbeats 8000000 in
theorem parse_c : ParseC := by
  intro s w hs P hP hcnt
  have hmk := make_one
  have hst := start_st s w P hP
  have hfine : ∀ d, P = some d → Fine d := fun d hd => (par_got (by rw [hP, hd])).1
  have HRA := Lib.hid (readAll_st hst (by omega))
  have HBX := Lib.hid (Row4.make w 25 (.int .i64 0) (.string ⟨#[]⟩) (.slice none 0 0) (.slice none 0 0))
  have HB0 := Lib.hid ((((Below.refl w.heap.size w).alloc (Nat.le_refl _) (.cells #[.int .i64 0, .string ⟨#[]⟩, .slice none 0 0, .slice none 0 0] 25)).alloc (by simp) (.cells #[.int .i64 0, .string ⟨#[]⟩, .slice none 0 0, .slice none 0 0] 25)).alloc (by simp; omega) (.cells #[.string s, .slice (some ⟨w.heap.size + 1, 0, none⟩) 1 1] 40))
  have HB1 := Lib.hid ((HBX.out.alloc (.cells #[.int .i64 0, .string ⟨#[]⟩, .slice none 0 0, .slice none 0 0] 25)).alloc (.cells #[.string s, .slice (some ⟨w.heap.size + 1, 0, none⟩) 1 1] 40))
  have HFINE := Lib.hid hfine
  have HCNT := Lib.hid hcnt
  clear hs hP hst hfine hcnt HBX
  go_enter Tryz.func9, Tryz.ntmps9
  go_upto_region 2 with fail
  generalize ((w.alloc (.cells #[.int .i64 0, .string ⟨#[]⟩, .slice none 0 0, .slice none 0 0] 25)).alloc (.cells #[.int .i64 0, .string ⟨#[]⟩, .slice none 0 0, .slice none 0 0] 25)).alloc (.cells #[.string s, .slice (some ⟨w.heap.size + 1, 0, none⟩) 1 1] 40) = W3 at *
  clear hmk
  go_wp2_with fail
  refine HRA.out.mono ?_
  rintro e W4 ⟨hb, (⟨rfl, hr⟩ | ⟨rfl, hP⟩)⟩
  · have HB4 := Lib.hid (HB0.out.trans (hb.mono (by omega)))
    have HX4 := Lib.hid (HB1.out.below hb (by omega))
    obtain ⟨B, cc, A, nn, cN, b, o, k, t, a2, n2, c2, A2, m2, q2, d, g1, g3, hn0, rfl, y0, y1, y2, y3, hN, hP⟩ := rdy_at hr
    have hn0z : (0 : Int) < (nn : Int) := by omega
    have hb5 : Below W4.heap.size W4 (W4.alloc (.cells #[.int .i64 k, .string t, .slice a2 n2 c2, .slice A2 m2 q2] 25)) := (Below.refl _ _).alloc (Nat.le_refl _) _
    have hN5 : NdC (fun b => w.heap.size + 1 + 1 < b ∧ b < (W4.alloc (.cells #[.int .i64 k, .string t, .slice a2 n2 c2, .slice A2 m2 q2] 25)).heap.size) (W4.alloc (.cells #[.int .i64 k, .string t, .slice a2 n2 c2, .slice A2 m2 q2] 25)) d (.int .i64 k) (.string t) (.slice a2 n2 c2) (.slice A2 m2 q2) := NdC.keep (fun b hx => ⟨⟨hx.1, Nat.lt_of_lt_of_le hx.2 hb5.size⟩, hb5.block b hx.2⟩) _ hN
    have hNW : NdW (W4.alloc (.cells #[.int .i64 k, .string t, .slice a2 n2 c2, .slice A2 m2 q2] 25)) d (.int .i64 k) (.string t) (.slice a2 n2 c2) (.slice A2 m2 q2) := NdC.keep (fun b hx => ⟨hx.2, rfl⟩) _ hN5
    obtain ⟨ok, hok⟩ : ∃ ok, okT 2000 d = ok := ⟨_, rfl⟩
    have HRI := Lib.hid (Right_gen d (HFINE.out d hP) (HCNT.out d hP) ok hok _ _ _ _ _ hNW)
    have HN5 := Lib.hid hN5
    have HX5 := Lib.hid (HX4.out.below hb5 HX4.out.lt)
    have HB5 := Lib.hid (HB4.out.trans (hb5.mono HB4.out.size))
    have HY5 := Lib.hid (Row4.make W4 25 (.int .i64 k) (.string t) (.slice a2 n2 c2) (.slice A2 m2 q2))
    have HP := Lib.hid hP
    have hHW : w.heap.size ≠ W4.heap.size := by have := HX4.out.lt; omega
    clear hP hb HB0 HB1 HRA HFINE HCNT hr hn0 hN hb5 hN5 hNW HX4 HB4
    go_upto_region 5 with fail
    generalize W4.alloc (.cells #[.int .i64 k, .string t, .slice a2 n2 c2, .slice A2 m2 q2] 25) = W5 at *
    generalize W4.heap.size = gx at *
    clear g1 g3 y0 y1 y2 y3
    obtain ⟨z0, z1, z2, z3⟩ := HY5.out.cells
    go_wp2_with fail
    refine HRI.out.mono ?_
    rintro e W6 ⟨rfl, hb6⟩
    have HX6 := Lib.hid (HX5.out.below hb6 HX5.out.lt)
    have HY6 := Lib.hid (HY5.out.below hb6 HY5.out.lt)
    have HB6 := Lib.hid (HB5.out.trans (hb6.mono HB5.out.size))
    have HN6 := Lib.hid (show NdC (fun b => w.heap.size < b ∧ b < W6.heap.size) W6 d (.int .i64 k) (.string t) (.slice a2 n2 c2) (.slice A2 m2 q2) from NdC.keep (fun b hx => ⟨⟨by have := hx.1; omega, Nat.lt_of_lt_of_le hx.2 hb6.size⟩, hb6.block b hx.2⟩) _ HN5.out)
    clear hb6 HX5 HY5 HB5 HN5 HRI z0 z1 z2 z3
    obtain ⟨r0, r1, r2, r3⟩ := HX6.out.cells
    obtain ⟨fr0, fr1, fr2, fr3⟩ := HX6.out.frozen
    cases ok with
    | true =>
      have HE := Lib.hid (par_yes hok)
      rw [← HP.out] at HE
      obtain ⟨z0, z1, z2, z3⟩ := HY6.out.cells
      clear hok HY6 HX6
      go_wp2
      refine bodyPost_ret (v := .tuple #[.agg #[.int .i64 k, .string t, .slice a2 n2 c2, .slice A2 m2 q2], .int .i64 0]) (by simp [results, Tryz.results9, go_sem, r0, r1, r2, r3]) rfl
        ⟨k, t, a2, n2, c2, A2, m2, q2, by rw [HE.out.1], ?_, below_p4 HB6.out (Nat.le_refl _) _ _ _ _⟩
      rw [← HE.out.2]
      exact NdC.keep (fun b hx => ⟨by simp [World.setCell]; exact hx.2, by
        have hne : b ≠ w.heap.size := by have := hx.1; omega
        rw [set_oth _ _ _ _ hne, set_oth _ _ _ _ hne, set_oth _ _ _ _ hne, set_oth _ _ _ _ hne]⟩) _ HN6.out
    | false =>
      have HE := Lib.hid (par_no hok)
      rw [← HP.out] at HE
      clear hok HY6 HX6 HN6
      go_wp2
      refine bodyPost_ret (v := .tuple #[.agg #[.int .i64 0, .string ⟨#[]⟩, .slice none 0 0, .slice none 0 0], .int .i64 9]) (by simp [results, Tryz.results9, go_sem, r0, r1, r2, r3]) rfl
        ⟨0, ⟨#[]⟩, none, 0, 0, none, 0, 0, by rw [← HE.out.1], ?_, below_p4 HB6.out (Nat.le_refl _) _ _ _ _⟩
      rw [← HE.out.2]
      exact nd_nul _ _
  · have HB4 := Lib.hid (HB0.out.trans (hb.mono (by omega)))
    have HX4 := Lib.hid (HB1.out.below hb (by omega))
    have HP := Lib.hid hP
    clear hP hb HB0 HB1 HRA HFINE HCNT
    obtain ⟨r0, r1, r2, r3⟩ := HX4.out.cells
    obtain ⟨fr0, fr1, fr2, fr3⟩ := HX4.out.frozen
    go_wp2
    refine bodyPost_ret (v := .tuple #[.agg #[.int .i64 0, .string ⟨#[]⟩, .slice none 0 0, .slice none 0 0], .int .i64 3]) (by simp [results, Tryz.results9, go_sem, r0, r1, r2, r3]) rfl
      ⟨0, ⟨#[]⟩, none, 0, 0, none, 0, 0, by rw [HP.out]; rfl, ?_, below_p4 HB4.out (Nat.le_refl _) _ _ _ _⟩
    rw [HP.out]
    exact nd_nul _ _
end Go.Proofs.YtemndagaicamiaaGreatDoor
