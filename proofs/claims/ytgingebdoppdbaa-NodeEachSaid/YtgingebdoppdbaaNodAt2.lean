/- The contract of the program's At. -/
import Derived.Test.YtgingebdoppdbaaNodAt
namespace Go.Proofs.Ytgingebdoppdbaa
open Go.RowKit Go.Sort
open Nw N8
open Dg
set_option linter.unusedVariables false
namespace N8
theorem cnt_kid {d e : Nd} {x : L8} (h : hopT d x = some e) : cntT e ≤ cntT d := by
  have := step_mem h
  cases d with
  | mk k t ks ds =>
    have h2 := cntL_mem (show e ∈ ds from this)
    rw [cntT]; omega
theorem kids_cnt (d : Nd) : d.kids.length ≤ cntT d := by
  cases d with
  | mk k t ks ds =>
    have := cntL_len ds
    show ds.length ≤ _
    rw [cntT]; omega
end N8
set_option maxRecDepth 100000 in
set_option maxHeartbeats 8000000 in
theorem At_node (d : Nd) (l : List L8) (hf : Fine d) (hcnt : cntT d ≤ 100000) (r : Option Nd) (hr : atT d l = r) (pv : Value) (c0 c1 c2 c3 : Value) (w : World) (hp : Rd w pv l) (hx : ∀ x ∈ l, x.length ≤ maxLen) (hd : NdW w d c0 c1 c2 c3) :
    Calls Try.prog 10 #[.agg #[c0, c1, c2, c3], pv] w (GotN (· < w.heap.size) w r) := by
  have HB0 := Lib.hid (AtB.make hd)
  obtain ⟨a, cap, rfl, hc, hm⟩ := rd_slice hp
  have HP := Lib.hid hp
  have HXL := Lib.hid hx
  clear hx
  have HR0 := Lib.hid hr
  have HF0 : Hid (Fine d ∧ cntT d ≤ 100000) := Lib.hid ⟨hf, hcnt⟩
  obtain ⟨n, hn⟩ : ∃ n, l.length = n := ⟨_, rfl⟩
  have HN := Lib.hid hn
  rw [hn] at HP hc ⊢
  unfold maxLen at hm
  have hn63 : n ≤ 9223372036854775807 := by omega
  have HD := Lib.hid hd
  clear hp hr hf hn hd hcnt
  obtain ⟨k0, s0, a0, n0, q0, A0, m0, r0, rfl, rfl, rfl, rfl⟩ := HD.out.shape
  go_enter Try.func10, Try.ntmps10
  go_wp2
  go_loopw [7, 8, 9, 12] (fun s7 s8 s9 si wr => ∃ (i : Nat) (e : Nd) (v0 v1 v2 v3 : Value), i ≤ n ∧ si = .int .i64 (i : Int) ∧ Hid (atT e (l.drop i) = r) ∧ Hid (Fine e ∧ cntT e ≤ 100000) ∧ Hid (AtB w wr e v0 v1 v2 v3)) (fun _ _ _ si _ => n - (intOf si).toNat)
  case atStart => exact ⟨0, d, _, _, _, _, Nat.zero_le _, rfl, HR0, HF0, HB0⟩
  case round =>
    clear HB0 HR0 HF0
    obtain ⟨i, e, v0, v1, v2, v3, hi, rfl, HR, HF, HB⟩ := hrel
    by_cases hlt : i < n
    · have hil : i < l.length := by rw [HN.out]; exact hlt
      have hiz : (i : Int) < (n : Int) := by omega
      obtain ⟨pb, po, rfl, hpb, y0⟩ := rd_at HP.out i hil
      obtain ⟨X, hX⟩ : ∃ X, ba (l[i]'hil) = X := ⟨_, rfl⟩
      have HX : Hid (X.data.toList = l[i]'hil) := Lib.hid (by rw [← hX, ba_data])
      rw [hX] at y0
      clear hX
      have y1 := (Below.cell HB.out.1 (p := ⟨pb, po + i, none⟩) hpb).trans y0
      obtain ⟨k, s, a1, n1, q1, A1, m1, r1, rfl, rfl, rfl, rfl⟩ := (HB.out.2.2.2.all HB.out.small).shape
      have hXs : X.size ≤ maxLen := by
        have h1 := HXL.out _ (List.getElem_mem hil)
        rw [← HX.out] at h1
        exact h1
      obtain ⟨o, ho⟩ : ∃ o, hopT e (l[i]'hil) = o := ⟨_, rfl⟩
      have HO := Lib.hid ho
      have HG := Lib.hid (child_any (· < w.heap.size) e X hXs (fine_keys HF.out.1) o (by rw [hopP_eq _ (Nat.le_trans (kids_cnt e) HF.out.2), HX.out]; exact ho) _ _ _ _ wr HB.out.small HB.out.2.2.2)
      obtain ⟨x0, x1, x2, x3⟩ := HB.out.2.1.cells
      clear ho
      go_wp2_with fail
      refine HG.out.mono ?_
      rintro e9 w2 ⟨u0, u1, u2, u3, rfl, hb2, hn2⟩
      have HB2 := Lib.hid (HB.out.go hb2)
      obtain ⟨k', s', a', n', c', A', m', q', rfl, rfl, rfl, rfl⟩ := (hn2.all HB2.out.small).shape
      have hal : Below w2.heap.size w2 (w2.alloc (.cells #[.int .i64 k', .string s', .slice a' n' c', .slice A' m' q'] 25)) := (Below.refl _ _).alloc (Nat.le_refl _) _
      have HB3 := Lib.hid (HB2.out.go hal)
      have HN2 := Lib.hid (hn2.old HB2.out.small hal)
      obtain ⟨B, hB⟩ : ∃ B, o.isSome = B := ⟨_, rfl⟩
      have HBB := Lib.hid hB
      rw [hB]
      clear hB hn2 hb2 x0 x1 x2 x3 hal HB2
      have HV := Lib.hid (Row4.make w2 25 (.int .i64 k') (.string s') (.slice a' n' c') (.slice A' m' q'))
      cases B with
      | false =>
        obtain rfl : o = none := by have := HBB.out; cases o with | none => rfl | some y => cases this
        have HE : Hid (r = none) := Lib.hid (by rw [← HR.out]; exact at_none hil HO.out)
        have HX8 := Lib.hid (below_put4 HB3.out.1 (g := w.heap.size + 1) (by omega) (.int .i64 0) (.string ⟨#[]⟩) (.slice none 0 0) (.slice none 0 0))
        obtain ⟨z0, z1, z2, z3⟩ := HB3.out.2.2.1.cells
        obtain ⟨fz0, fz1, fz2, fz3⟩ := HB3.out.2.2.1.frozen
        go_wp2
        refine bodyPost_ret (v := .tuple #[.agg #[.int .i64 0, .string ⟨#[]⟩, .slice none 0 0, .slice none 0 0], .bool false]) (by simp [results, Try.results10, go_sem, z0, z1, z2, z3]) rfl ⟨_, _, _, _, by rw [HE.out]; rfl, HX8.out, by rw [HE.out]; exact nd_nul _ _⟩
      | true =>
        obtain ⟨e', rfl⟩ : ∃ e', o = some e' := by have := HBB.out; cases o with | none => cases this | some y => exact ⟨y, rfl⟩
        have HR2 : Hid (atT e' (l.drop (i + 1)) = r) := Lib.hid (by rw [← HR.out]; exact (at_some hil HO.out).symm)
        have HF2 : Hid (Fine e' ∧ cntT e' ≤ 100000) := Lib.hid ⟨fine_kid HF.out.1 (step_mem HO.out), Nat.le_trans (cnt_kid HO.out) HF.out.2⟩
        have HB4 : Hid (AtB w (put4 (w2.alloc (.cells #[.int .i64 k', .string s', .slice a' n' c', .slice A' m' q'] 25)) w.heap.size (.int .i64 k') (.string s') (.slice a' n' c') (.slice A' m' q')) e' (.int .i64 k') (.string s') (.slice a' n' c') (.slice A' m' q')) := Lib.hid (HB3.out.next HN2.out)
        obtain ⟨x0, x1, x2, x3⟩ := HB3.out.2.1.cells
        obtain ⟨fx0, fx1, fx2, fx3⟩ := HB3.out.2.1.frozen
        obtain ⟨v0, v1, v2, v3⟩ := HV.out.cells
        go_wp2
        go_roundw
        case measure => simp [intOf]; omega
        case rel => exact ⟨i + 1, e', _, _, _, _, by omega, by go_num, HR2, HF2, HB4⟩
    · obtain rfl : i = n := by omega
      have HE : Hid (r = some e) := Lib.hid (by rw [← HR.out, List.drop_of_length_le (by rw [HN.out]; exact Nat.le_refl _), atT])
      obtain ⟨k, s, a1, n1, q1, A1, m1, r1, rfl, rfl, rfl, rfl⟩ := (HB.out.2.2.2.all HB.out.small).shape
      obtain ⟨x0, x1, x2, x3⟩ := HB.out.2.1.cells
      obtain ⟨z0, z1, z2, z3⟩ := HB.out.2.2.1.cells
      obtain ⟨f0, f1, f2, f3⟩ := HB.out.2.2.1.frozen
      have HX9 := Lib.hid (HB.out.2.2.2.oth (g := w.heap.size + 1) (by omega) (.int .i64 k) (.string s) (.slice a1 n1 q1) (.slice A1 m1 r1))
      have HX8 := Lib.hid (below_put4 HB.out.1 (g := w.heap.size + 1) (by omega) (.int .i64 k) (.string s) (.slice a1 n1 q1) (.slice A1 m1 r1))
      go_wp2
      refine bodyPost_ret (v := .tuple #[.agg #[.int .i64 k, .string s, .slice a1 n1 q1, .slice A1 m1 r1], .bool true]) (by simp [results, Try.results10, go_sem, z0, z1, z2, z3]) rfl ⟨_, _, _, _, by rw [HE.out]; rfl, HX8.out, by rw [HE.out]; exact HX9.out⟩
end Go.Proofs.Ytgingebdoppdbaa
