/- The contracts of the program's measure, Count and Deep. -/
import Derived.Test.YtemndagaicamiaaGreatDoorRefNod1
namespace Go.Proofs.YtemndagaicamiaaGreatDoor
open Go.RowKit Go.Sort
open Nw N8
set_option linter.unusedVariables false
theorem ret_i2 {a b c d : Int} (h : a = b) (g : c = d) : Ending.returned (.tuple #[.int .i64 a, .int .i64 c]) = .returned (.tuple #[.int .i64 b, .int .i64 d]) := by rw [h, g]
/-- The shapes of a node's four cells. -/
theorem ndw_shape {w : World} {d : Nd} {c0 c1 c2 c3 : Value} (h : NdW w d c0 c1 c2 c3) :
    ∃ (k : Int) (s : ByteArray) (a : Option Addr) (n c : Nat) (A : Option Addr) (m q : Nat), c0 = .int .i64 k ∧ c1 = .string s ∧ c2 = .slice a n c ∧ c3 = .slice A m q := by
  cases d with
  | mk k t ks ds =>
    obtain ⟨h0, h1, ⟨a, c, h4, _⟩, A, cap, h3, _⟩ := h.parts
    exact ⟨k, _, a, _, c, A, _, cap, h0, h1, h4, h3⟩
set_option maxRecDepth 100000 in
set_option maxHeartbeats 4000000 in
theorem measure_any (N : Nat) : ∀ (d : Nd), cntT d ≤ N → ∀ (most : Int), (cntT d : Int) ≤ most → most ≤ 1000000 → ∀ (c0 c1 c2 c3 : Value) (w : World), NdW w d c0 c1 c2 c3 →
    Calls Tryz.prog 32 #[.agg #[c0, c1, c2, c3], .int .i64 most] w fun e w' => e = .returned (.tuple #[.int .i64 (cntT d : Int), .int .i64 (depT d : Int)]) ∧ Below w.heap.size w w' := by
  induction N with
  | zero => intro d h; have := cntT_pos d; omega
  | succ N ih =>
    intro d hN most hmost hbig c0 c1 c2 c3 w hd
    cases d with
    | mk k t ks ds =>
      have HB0 := Lib.hid (Boxed.make hd)
      obtain ⟨rfl, rfl, _, A, cap, rfl, hcap, hm, hnil, _⟩ := hd.parts
      have HIH := Lib.hid ih
      obtain ⟨n, hn⟩ : ∃ n, ds.length = n := ⟨_, rfl⟩
      have HN := Lib.hid hn
      rw [cntT] at hmost hN
      have hnl : n ≤ 1000000 := by have := cntL_len ds; omega
      have hcN : cntL ds ≤ N := by omega
      rw [cntT, depT]
      have HC := Lib.hid hmost
      have HBG := Lib.hid hbig
      have HCN := Lib.hid hcN
      have HDL : Hid (depL ds ≤ cntL ds) := Lib.hid (by
        have := depT_cnt _ (.mk k t ks ds) (Nat.le_refl _)
        rw [depT, cntT] at this; omega)
      obtain ⟨TOT, hT⟩ : ∃ TOT, cntL ds = TOT := ⟨_, rfl⟩
      obtain ⟨DOT, hD⟩ : ∃ DOT, depL ds = DOT := ⟨_, rfl⟩
      have HT := Lib.hid hT
      have HD := Lib.hid hD
      rw [hT, hD]
      rw [hn] at HB0 hcap ⊢
      clear ih hd hn hcN hT hD hN hnil
      rw [HT.out] at hmost
      obtain ⟨TT, hTT⟩ : ∃ TT, ba t = TT := ⟨_, rfl⟩
      rw [hTT] at HB0 ⊢
      clear hTT
      go_enter Tryz.func32, Tryz.ntmps32
      obtain ⟨x0, x1, x2, x3⟩ := HB0.out.2.1.cells
      go_wp2
      clear x0 x1 x2 x3
      go_loopw [4, 5, 7, 8, 9, 13] (fun sc sd s7 s8 s9 si wr => ∃ (j C D : Nat), j ≤ n ∧ C ≤ 1000000 ∧ (1 ≤ C ∧ D ≤ C) ∧ si = .int .i64 (j : Int) ∧ sc = .int .i64 (C : Int) ∧ sd = .int .i64 (D : Int) ∧ Hid (C = 1 + cntL (ds.take j)) ∧ Hid (D = 1 + depL (ds.take j)) ∧ Hid (Boxed w wr (.mk k t ks ds) (.int .i64 k) (.string TT) c2 (.slice A n cap))) (fun _ _ _ _ _ si _ => n - (intOf si).toNat)
      case atStart => exact ⟨0, 1, 1, Nat.zero_le _, by omega, ⟨by omega, by omega⟩, rfl, rfl, rfl, Lib.hid rfl, Lib.hid rfl, HB0⟩
      case round =>
        clear HB0
        obtain ⟨j, C, D, hj, hC, ⟨hC1, hD⟩, rfl, rfl, rfl, HCJ, HDJ, HB⟩ := hrel
        by_cases hlt : j < n
        · have hjl : j < ds.length := by rw [HN.out]; exact hlt
          have hjz : (j : Int) < (n : Int) := by omega
          obtain ⟨b, o, e0, e1, e2, e3, rfl, hb, y0, y1, y2, y3, hnd⟩ := HB.out.2.2.kid j hjl
          obtain ⟨k', s', a', n', c', A', m', q', rfl, rfl, rfl, rfl⟩ := ndw_shape hnd
          have hcj := cntL_take_succ hjl
          have hdj := depL_take_succ hjl
          have hle := cntL_take_le ds (j + 1)
          have hpos := cntT_pos (ds[j]'hjl)
          have hdc := depT_cnt _ (ds[j]'hjl) (Nat.le_refl _)
          have hsum : C + cntT (ds[j]'hjl) = 1 + cntL (ds.take (j + 1)) := by rw [hcj, HCJ.out]; omega
          have hal : Below wr.heap.size wr (wr.alloc (.cells #[.int .i64 k', .string s', .slice a' n' c', .slice A' m' q'] 25)) := (Below.refl _ _).alloc (Nat.le_refl _) _
          have hsm : (C : Int) + (cntT (ds[j]'hjl) : Int) ≤ most := by have := HC.out; have := HT.out; omega
          have HR := Lib.hid (HIH.out (ds[j]'hjl) (by have := cntL_mem (List.getElem_mem hjl); have := HCN.out; omega) (most - (C : Int)) (by omega) (by omega) _ _ _ _ _ (hnd.below hal))
          have HS := Lib.hid hsum
          have HB1 := Lib.hid (HB.out.go hal)
          have HDS : Hid (max D (depT (ds[j]'hjl) + 1) = 1 + depL (ds.take (j + 1))) := Lib.hid (by rw [hdj, HDJ.out]; omega)
          obtain ⟨z, hz⟩ : ∃ z, cntT (ds[j]'hjl) = z := ⟨_, rfl⟩
          obtain ⟨y, hy⟩ : ∃ y, depT (ds[j]'hjl) = y := ⟨_, rfl⟩
          rw [hz, hy] at HR
          rw [hz] at hsm HS hpos hdc
          rw [hy] at hdc HDS
          clear hnd hcj hdj hle hsum hz hy hal
          have p1 : ((C : Int) == most) = false := by rw [beq_eq_false_iff_ne]; omega
          have p2 : IntKind.i64.wrap (most - (C : Int)) = most - (C : Int) := IntWalk.i64_in _ (by omega)
          have hCz : C + z ≤ 1000000 := by omega
          have hyb : y ≤ 1000000 := by omega
          obtain ⟨M, hM⟩ : ∃ M, most - (C : Int) = M := ⟨_, rfl⟩
          rw [hM] at HR p2
          go_wp2_with (go_at_call 32; refine HR.out.mono ?_; rintro e w2 ⟨rfl, hb2⟩)
          have HB2 := Lib.hid (HB1.out.go hb2)
          clear hb2
          exact ⟨⟨j + 1, C + z, max D (y + 1), by omega, hCz, ⟨by omega, by omega⟩, by go_num, by go_num, by go_num, HS, HDS, HB2⟩, by simp [intOf]; omega⟩
        · obtain rfl : j = n := by omega
          have HE : Hid (C = 1 + TOT) := Lib.hid (by rw [HCJ.out, List.take_of_length_le (by rw [HN.out]; exact Nat.le_refl _), HT.out])
          have HE2 : Hid (D = 1 + DOT) := Lib.hid (by rw [HDJ.out, List.take_of_length_le (by rw [HN.out]; exact Nat.le_refl _), HD.out])
          go_wp2
          refine bodyPost_ret (v := .tuple #[.int .i64 (C : Int), .int .i64 (D : Int)]) (by simp [results, Tryz.results32, go_sem]) rfl ⟨ret_i2 (by rw [HE.out]) (by rw [HE2.out]), HB.out.1⟩
end Go.Proofs.YtemndagaicamiaaGreatDoor
