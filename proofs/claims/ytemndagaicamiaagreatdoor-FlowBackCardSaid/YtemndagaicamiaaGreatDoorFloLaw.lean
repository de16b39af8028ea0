/- FlowWrites and FlowBack: the walks of the laws, over the contracts of the program's Write and Parse. -/
import Derived.Test.YtemndagaicamiaaGreatDoorRefWri
import Derived.Test.YtemndagaicamiaaGreatDoorMergeM
import Derived.Test.YtemndagaicamiaaGreatDoorRefNod6
import Derived.Deep.RegionHeld3
import Derived.Deep.CutRange
import Derived.BigQuiet
namespace Go.Proofs.YtemndagaicamiaaGreatDoor
open Go.RowKit Go.Sort
open Nw N8 Q6 F9
set_option linter.unusedVariables false
namespace F9
/-- Chapter 9's example. -/
def exN : Nd := .mk 2 [] [] [txt [97], .mk 3 [] [[98], [100]] [txt [99], nul]]
theorem ex_par : parP [91, 97, 44, 32, 123, 98, 58, 32, 39, 99, 39, 44, 32, 34, 100, 34, 58, 125, 93] = some exN := by kernel_rfl
theorem fine_txt (t : L8) : Fine (txt t) := (got_txt (m := (wtx t).length) (by omega)).1
theorem ex_fine9 : Fine exN := .mk (by decide) (by decide) (by simp [formB]) (fun h => by cases h) fun d hd => by
  simp only [List.mem_cons, List.not_mem_nil, or_false] at hd
  rcases hd with rfl | rfl
  · exact fine_txt _
  · refine .mk (by decide) (by decide) (by simp [formB]) (fun _ => ⟨rfl, sort_once ?_⟩) fun e he => ?_
    · exact once_snoc (l := [[98]]) (once_snoc (l := []) once_nil (by simp)) (by simp)
    · simp only [List.mem_cons, List.not_mem_nil, or_false] at he
      rcases he with rfl | rfl
      · exact fine_txt _
      · exact (got_nul 0).1
theorem ex_ok : okT 2000 exN = true := (ok_iff (most := 2000)).2 ⟨ex_fine9, by decide, by decide⟩
theorem ex_not : parP [91, 97, 44, 32, 93] = none := by kernel_rfl
end F9
/-- The contract of the program's Write. -/
def WriteC : Prop := ∀ (d : Nd), okT 2000 d = true → (wrT d).length ≤ 1000000 → ∀ (c0 c1 c2 c3 : Value) (w : World), NdW w d c0 c1 c2 c3 → ∀ (q : ByteArray), wrT d = q.data.toList →
    Calls Tryz.prog 7 #[.agg #[c0, c1, c2, c3]] w fun e w' => e = .returned (.string q) ∧ Below w.heap.size w w'
/-- The contract of the program's Parse. -/
def ParseC : Prop := ∀ (s : ByteArray) (w : World), s.size ≤ 500000 → ∀ (P : Option Nd), parP s.data.toList = P → (∀ d, P = some d → cntT d ≤ 2001) →
    Calls Tryz.prog 9 #[.string s] w fun e w' => ∃ (k : Int) (t : ByteArray) (a : Option Addr) (n c : Nat) (A : Option Addr) (m q : Nat),
      e = .returned (.tuple #[.agg #[.int .i64 k, .string t, .slice a n c, .slice A m q], .int .i64 (parE P)]) ∧ NdW w' (parD P) (.int .i64 k) (.string t) (.slice a n c) (.slice A m q) ∧ Below w.heap.size w w'
theorem al_below (w : World) (o : Obj) : Below w.heap.size w (w.alloc o) := (Below.refl _ _).alloc (Nat.le_refl _) _
/-- A box with a node in it, wherever it lies. -/
def BX (W : World) (g : Nat) (d : Nd) (c0 c1 c2 c3 : Value) : Prop := Row4 W g 25 c0 c1 c2 c3 ∧ NdW W d c0 c1 c2 c3
theorem BX.go {W W' : World} {g : Nat} {d : Nd} {c0 c1 c2 c3 : Value} (h : BX W g d c0 c1 c2 c3) (hb : Below W.heap.size W W') : BX W' g d c0 c1 c2 c3 := ⟨h.1.below hb h.1.lt, h.2.below hb⟩
theorem bx_make {w : World} {d : Nd} {c0 c1 c2 c3 : Value} (h : NdW w d c0 c1 c2 c3) : BX (w.alloc (.cells #[c0, c1, c2, c3] 25)) w.heap.size d c0 c1 c2 c3 :=
  ⟨Row4.make w _ _ _ _ _, h.below (al_below w _)⟩
theorem BX.nd {W : World} {g : Nat} {d : Nd} {c0 c1 c2 c3 : Value} (h : BX W g d c0 c1 c2 c3) : NdW W d c0 c1 c2 c3 := h.2
theorem RSame_of {d : Nd} {c0 c1 c2 c3 u0 u1 u2 u3 : Value} {w : World} (h : NdW w d c0 c1 c2 c3) (g : NdW w d u0 u1 u2 u3) :
    Calls Tryz.prog 10 #[.agg #[c0, c1, c2, c3], .agg #[u0, u1, u2, u3]] w fun x w' => x = .returned (.bool true) ∧ Below w.heap.size w w' :=
  RSameT_any (cntT d) d d (Nat.le_refl _) true (sameT_refl _ d (Nat.le_refl _)) c0 c1 c2 c3 u0 u1 u2 u3 w h g
theorem b_next {w w1 w2 : World} (h : Below w.heap.size w w1) (g : Below w1.heap.size w1 w2) : Below w.heap.size w w2 := h.trans (g.mono h.size)
set_option maxRecDepth 100000 in
set_option maxHeartbeats 8000000 in
theorem f_awake (HP : ParseC) (w : World) : Calls Tryz.prog 6 #[] w fun e w' => e = .returned (.bool true) ∧ Below w.heap.size w w' := by
  have H1 := Lib.hid (HP ⟨#[91, 97, 44, 32, 123, 98, 58, 32, 39, 99, 39, 44, 32, 34, 100, 34, 58, 125, 93]⟩ w (by decide) _ ex_par (fun d h => by injection h with h; subst h; decide))
  have H2 := Lib.hid (fun W => HP ⟨#[91, 97, 44, 32, 93]⟩ W (by decide) _ ex_not (fun d h => by cases h))
  clear HP
  go_enter Tryz.func6, Tryz.ntmps6
  go_wp2_with fail
  refine H1.out.mono ?_
  rintro e w1 ⟨m_k, m_s, m_a, m_n, m_c, m_A, m_m, m_q, rfl, hn, hb⟩
  have hn2 : NdW w1 exN (.int .i64 m_k) (.string m_s) (.slice m_a m_n m_c) (.slice m_A m_m m_q) := by
    have e : parD (some exN) = exN := if_pos ex_ok
    rw [e] at hn
    exact hn
  rw [show parE (some exN) = 0 from if_pos ex_ok]
  have HB := Lib.hid (bx_make hn2)
  have HW := Lib.hid (b_next hb (al_below w1 (.cells #[.int .i64 m_k, .string m_s, .slice m_a m_n m_c, .slice m_A m_m m_q] 25)))
  clear hn hn2 hb H1
  go_wp2_with fail
  generalize w1.alloc (.cells #[.int .i64 m_k, .string m_s, .slice m_a m_n m_c, .slice m_A m_m m_q] 25) = W1 at *
  generalize w1.heap.size = gm at *
  refine (H2.out W1).mono ?_
  rintro e w2 ⟨x_k, x_s, x_a, x_n, x_c, x_A, x_m, x_q, rfl, hn, hb⟩
  rw [show parE none = 3 from rfl]
  have HB2 := Lib.hid ((HB.out.go hb).go (al_below w2 (.cells #[.int .i64 x_k, .string x_s, .slice x_a x_n x_c, .slice x_A x_m x_q] 25)))
  have HW2 := Lib.hid (b_next (b_next HW.out hb) (al_below w2 (.cells #[.int .i64 x_k, .string x_s, .slice x_a x_n x_c, .slice x_A x_m x_q] 25)))
  clear hn hb H2 HB HW
  go_upto_region 3 with fail
  generalize w2.alloc (.cells #[.int .i64 x_k, .string x_s, .slice x_a x_n x_c, .slice x_A x_m x_q] 25) = W2 at *
  generalize w2.heap.size = gx at *
  obtain ⟨b0, b1, b2, b3⟩ := HB2.out.1.cells
  obtain ⟨-, -, -, A0, cap0, hA0, -, -, -, hkid⟩ := HB2.out.2.parts
  injection hA0 with hA0 hm0 _
  obtain rfl : m_m = 2 := hm0
  obtain ⟨b, o, e0, e1, e2, e3, hA1, -, y0, y1, y2, y3, hnd⟩ := hkid 1 (by decide)
  have hmA : m_A = some ⟨b, o, none⟩ := hA0.trans hA1
  subst hmA
  have hnd2 : NdW W2 (.mk 3 [] [[98], [100]] [txt [99], nul]) e0 e1 e2 e3 := hnd
  obtain ⟨-, -, hks, A2, cap2, rfl, -, -, -, hkid2⟩ := hnd2.parts
  obtain ⟨a2, c2, rfl, -, -⟩ := rd_slice hks
  obtain ⟨b', o', f0, f1, f2, f3, hA2, -, z0, z1, z2, z3, hnf⟩ := hkid2 0 (by decide)
  subst hA2
  obtain ⟨b'', o'', g0, g1, g2, g3, hA3, -, t0, t1, t2, t3, hng⟩ := hkid2 1 (by decide)
  injection hA3 with hA3
  injection hA3 with hA3 hA4 _
  subst hA3; subst hA4
  have hnf2 : NdW W2 (.mk 1 [99] [] []) f0 f1 f2 f3 := hnf
  have hng2 : NdW W2 (.mk 0 [] [] []) g0 g1 g2 g3 := hng
  obtain ⟨-, rfl, -⟩ := hnf2.parts
  obtain ⟨rfl, -, -⟩ := hng2.parts
  have y2' : W2.cell? ⟨b, o + 6, none⟩ = some (.slice a2 2 c2) := y2
  have y3' : W2.cell? ⟨b, o + 7, none⟩ = some (.slice (some ⟨b', o', none⟩) 2 cap2) := y3
  have z1' : W2.cell? ⟨b', o' + 1, none⟩ = some (.string ⟨#[99]⟩) := by rw [Nat.zero_mul] at z1; exact z1
  have t0' : W2.cell? ⟨b', o' + 4, none⟩ = some (.int .i64 0) := t0
  clear y0 y1 y2 y3 z0 z1 z2 z3 t0 t1 t2 t3 hnf hng hnf2 hng2 hnd hnd2 hks hkid hkid2 hA0 hA1
  go_wp2
  go_ret
  exact ⟨rfl, HW2.out⟩
theorem small_parts {d : Nd} {most : Int} (h : smallT d most = true) : okT most d = true ∧ shortT d = true := by
  unfold smallT at h
  rw [Bool.and_eq_true] at h
  exact h
set_option maxRecDepth 100000 in
set_option maxHeartbeats 8000000 in
theorem FlowWrites_law (HWC : WriteC) (HPC : ParseC) (n : Nd) (c0 c1 c2 c3 : Value) (w : World) (hn : NdW w n c0 c1 c2 c3) :
    Calls Tryz.prog 3 #[.agg #[c0, c1, c2, c3]] w fun e w' => e = .returned (.bool true) ∧ Below w.heap.size w w' := by
  obtain ⟨n_k, n_s, n_a, n_n, n_c, n_A, n_m, n_q, rfl, rfl, rfl, rfl⟩ := hn.shape
  have HBn := Lib.hid (bx_make hn)
  have HW := Lib.hid (al_below w (.cells #[.int .i64 n_k, .string n_s, .slice n_a n_n n_c, .slice n_A n_m n_q] 25))
  have HSn := Lib.hid (fun W r hr hW => RSmall_any n 200 (by decide) (by decide) r hr (.int .i64 n_k) (.string n_s) (.slice n_a n_n n_c) (.slice n_A n_m n_q) W hW)
  have HAW := Lib.hid (f_awake HPC)
  clear hn
  generalize hW0 : w.alloc (.cells #[.int .i64 n_k, .string n_s, .slice n_a n_n n_c, .slice n_A n_m n_q] 25) = W0 at *
  obtain ⟨x0, x1, x2, x3⟩ := HBn.out.1.cells
  cases hs : smallT n 200 with
  | false =>
    go_enter Tryz.func3, Tryz.ntmps3
    go_wp2_with fail
    refine (HSn.out _ false hs HBn.out.2).mono ?_
    rintro e w1 ⟨rfl, hb⟩
    replace HW := Lib.hid (b_next HW.out hb)
    clear hb
    go_wp2_with fail
    refine (HAW.out _).mono ?_
    rintro e w2 ⟨rfl, hb⟩
    go_wp2
    go_ret
    exact ⟨rfl, b_next HW.out hb⟩
  | true =>
    obtain ⟨hok, hsh⟩ := small_parts hs
    obtain ⟨hf, hc, hdp⟩ := (ok_iff (most := 200)).1 hok
    have hok2 : okT 2000 n = true := (ok_iff (most := 2000)).2 ⟨hf, by omega, hdp⟩
    have hlen := short_len n hsh
    obtain ⟨q, hq⟩ : ∃ q, ba (wrT n) = q := ⟨_, rfl⟩
    have hql : wrT n = q.data.toList := by rw [← hq, ba_data]
    have HWR := Lib.hid (fun W hW => HWC n hok2 (by omega) (.int .i64 n_k) (.string n_s) (.slice n_a n_n n_c) (.slice n_A n_m n_q) W hW q hql)
    have HRW := Lib.hid (fun W hW => RWrite_any (cntT n) n (Nat.le_refl _) hf (by omega) (.int .i64 n_k) (.string n_s) (.slice n_a n_n n_c) (.slice n_A n_m n_q) W hW q hql)
    have pq : (q.toList == q.toList) = true := by simp
    have HS := Lib.hid hs
    clear hok hok2 hdp hsh hf hc hlen hq hql hs HWC HPC
    go_enter Tryz.func3, Tryz.ntmps3
    go_wp2_with fail
    refine (HSn.out _ true HS.out HBn.out.2).mono ?_
    rintro e w1 ⟨rfl, hb⟩
    replace HW := Lib.hid (b_next HW.out hb)
    replace HBn := Lib.hid (HBn.out.go hb)
    clear hb HSn x0 x1 x2 x3 hW0
    go_upto_region 3 with fail
    replace HW := Lib.hid (b_next HW.out (below_drew _))
    replace HBn := Lib.hid (HBn.out.go (below_drew _))
    go_region_held3 (fun W => W.cell? ⟨w.heap.size, 0, none⟩ = some (.int .i64 n_k) ∧ W.cell? ⟨w.heap.size, 1, none⟩ = some (.string n_s) ∧ W.cell? ⟨w.heap.size, 2, none⟩ = some (.slice n_a n_n n_c) ∧ W.cell? ⟨w.heap.size, 3, none⟩ = some (.slice n_A n_m n_q)) (first | exact HBn.out.1.cells)
      (first
        | (go_at_call 7; refine (HWR.out _ HBn.out.2).mono ?_; rintro e9 w9 ⟨rfl, hb⟩; replace HW := Lib.hid (b_next HW.out hb); replace HBn := Lib.hid (HBn.out.go hb))
        | (go_at_call 8; refine (HRW.out _ HBn.out.2).mono ?_; rintro e9 w9 ⟨rfl, hb⟩; replace HW := Lib.hid (b_next HW.out hb); replace HBn := Lib.hid (HBn.out.go hb))
        | (go_at_call 6; refine (HAW.out _).mono ?_; rintro e9 w9 ⟨rfl, hb⟩; replace HW := Lib.hid (b_next HW.out hb); replace HBn := Lib.hid (HBn.out.go hb)))
    all_goals
      go_wp2
      go_ret
      exact ⟨rfl, HW.out⟩
theorem par_bound {s : ByteArray} {P : Option Nd} (h : parP s.data.toList = P) (hs : s.size ≤ 2000) : ∀ d, P = some d → cntT d ≤ 2001 := fun d hd => by
  subst hd
  have := (par_got h).2.1
  rw [show s.data.toList.length = s.size from (size_of_list rfl).symm] at this
  omega
set_option maxRecDepth 100000 in
set_option maxHeartbeats 8000000 in
theorem FlowBack_law (HWC : WriteC) (HPC : ParseC) (n : Nd) (s : ByteArray) (c0 c1 c2 c3 : Value) (w : World) (hn : NdW w n c0 c1 c2 c3) (_ : s.size ≤ maxLen) :
    Calls Tryz.prog 4 #[.agg #[c0, c1, c2, c3], .string s] w fun e w' => e = .returned (.bool true) ∧ Below w.heap.size w w' := by
  obtain ⟨n_k, n_s, n_a, n_n, n_c, n_A, n_m, n_q, rfl, rfl, rfl, rfl⟩ := hn.shape
  have HBn := Lib.hid (bx_make hn)
  have HW := Lib.hid (al_below w (.cells #[.int .i64 n_k, .string n_s, .slice n_a n_n n_c, .slice n_A n_m n_q] 25))
  have HSn := Lib.hid (fun W r hr hW => RSmall_any n 200 (by decide) (by decide) r hr (.int .i64 n_k) (.string n_s) (.slice n_a n_n n_c) (.slice n_A n_m n_q) W hW)
  have HAW := Lib.hid (f_awake HPC)
  clear hn
  generalize hW0 : w.alloc (.cells #[.int .i64 n_k, .string n_s, .slice n_a n_n n_c, .slice n_A n_m n_q] 25) = W0 at *
  obtain ⟨x0, x1, x2, x3⟩ := HBn.out.1.cells
  cases hs : smallT n 200 with
  | false =>
    go_enter Tryz.func4, Tryz.ntmps4
    go_wp2_with fail
    refine (HSn.out _ false hs HBn.out.2).mono ?_
    rintro e w1 ⟨rfl, hb⟩
    replace HW := Lib.hid (b_next HW.out hb)
    clear hb
    go_wp2_with fail
    refine (HAW.out _).mono ?_
    rintro e w2 ⟨rfl, hb⟩
    go_wp2
    go_ret
    exact ⟨rfl, b_next HW.out hb⟩
  | true =>
  by_cases h2 : (2000 : Int) < (s.size : Int)
  · go_enter Tryz.func4, Tryz.ntmps4
    go_wp2_with fail
    refine (HSn.out _ true hs HBn.out.2).mono ?_
    rintro e w1 ⟨rfl, hb⟩
    replace HW := Lib.hid (b_next HW.out hb)
    clear hb
    go_wp2_with fail
    refine (HAW.out _).mono ?_
    rintro e w2 ⟨rfl, hb⟩
    go_wp2
    go_ret
    exact ⟨rfl, b_next HW.out hb⟩
  · have hs2 : s.size ≤ 2000 := by omega
    obtain ⟨hok, hsh⟩ := small_parts hs
    obtain ⟨hf, hc, hdp⟩ := (ok_iff (most := 200)).1 hok
    have hok2 : okT 2000 n = true := (ok_iff (most := 2000)).2 ⟨hf, by omega, hdp⟩
    have hlen := short_len n hsh
    obtain ⟨q, hq⟩ : ∃ q, ba (wrT n) = q := ⟨_, rfl⟩
    have hql : wrT n = q.data.toList := by rw [← hq, ba_data]
    have hqs : q.size ≤ 400000 := by rw [size_of_list hql.symm]; omega
    have HWR := Lib.hid (fun W hW => HWC n hok2 (by omega) (.int .i64 n_k) (.string n_s) (.slice n_a n_n n_c) (.slice n_A n_m n_q) W hW q hql)
    have hpq : parP (⟨#[32, 32]⟩ ++ q ++ ⟨#[32]⟩ : ByteArray).data.toList = some n := by
      rw [bytes_app, bytes_app, ← hql, List.append_assoc]
      exact parP_back hf 2 1
    have hsz : (⟨#[32, 32]⟩ ++ q ++ ⟨#[32]⟩ : ByteArray).size ≤ 500000 := by
      have e : (⟨#[32, 32]⟩ ++ q ++ ⟨#[32]⟩ : ByteArray).data.toList = [32, 32] ++ q.data.toList ++ [32] := by rw [bytes_app, bytes_app]
      rw [size_of_list e]
      have := size_of_list (x := q) rfl
      simp only [List.length_append, List.length_cons, List.length_nil]
      omega
    have HPQ := Lib.hid (fun W => HPC (⟨#[32, 32]⟩ ++ q ++ ⟨#[32]⟩) W hsz _ hpq (fun d h => by injection h with h; subst h; omega))
    have hE0 : parE (some n) = 0 := if_pos hok2
    have hD0 : parD (some n) = n := if_pos hok2
    rw [hE0, hD0] at HPQ
    obtain ⟨P, hP⟩ : ∃ P, parP s.data.toList = P := ⟨_, rfl⟩
    have HPS := Lib.hid (fun W => HPC s W (by omega) P hP (par_bound hP hs2))
    have HPG := Lib.hid (fun d (h : P = some d) => by
      have := par_got (hP.trans h)
      rw [show s.data.toList.length = s.size from (size_of_list rfl).symm] at this
      exact (show Fine d ∧ cntT d ≤ 2001 ∧ (wrT d).length ≤ 12004 from ⟨this.1, by omega, by omega⟩))
    have HS := Lib.hid hs
    have HCW := Lib.hid HWC
    have HCP := Lib.hid HPC
    clear hok hsh hf hc hdp hok2 hlen hq hql hs HWC HPC hpq hsz hE0 hD0 hP
    go_enter Tryz.func4, Tryz.ntmps4
    go_wp2_with fail
    refine (HSn.out _ true HS.out HBn.out.2).mono ?_
    rintro e w1 ⟨rfl, hb⟩
    replace HW := Lib.hid (b_next HW.out hb)
    replace HBn := Lib.hid (HBn.out.go hb)
    clear hb HSn x0 x1 x2 x3 hW0
    obtain ⟨x0, x1, x2, x3⟩ := HBn.out.1.cells
    go_wp2_with fail
    refine (HWR.out _ HBn.out.2).mono ?_
    rintro e w2 ⟨rfl, hb⟩
    replace HW := Lib.hid (b_next HW.out hb)
    replace HBn := Lib.hid (HBn.out.go hb)
    clear hb x0 x1 x2 x3
    go_wp2_with fail
    refine (HPQ.out _).mono ?_
    rintro e w3 ⟨m_k, m_s, m_a, m_n, m_c, m_A, m_m, m_q, rfl, hnm, hb⟩
    replace HW := Lib.hid (b_next (b_next HW.out hb) (al_below w3 (.cells #[.int .i64 m_k, .string m_s, .slice m_a m_n m_c, .slice m_A m_m m_q] 25)))
    replace HBn := Lib.hid ((HBn.out.go hb).go (al_below w3 (.cells #[.int .i64 m_k, .string m_s, .slice m_a m_n m_c, .slice m_A m_m m_q] 25)))
    have HBm := Lib.hid (bx_make hnm)
    clear hb hnm HPQ HWR
    go_upto_region 4 with fail
    generalize w3.alloc (.cells #[.int .i64 m_k, .string m_s, .slice m_a m_n m_c, .slice m_A m_m m_q] 25) = W3 at *
    generalize w3.heap.size = gm at *
    obtain ⟨x0, x1, x2, x3⟩ := HBn.out.1.cells
    obtain ⟨y0, y1, y2, y3⟩ := HBm.out.1.cells
    go_wp2_with fail
    refine (RSame_of HBm.out.2 HBn.out.2).mono ?_
    rintro e w4 ⟨rfl, hb⟩
    replace HW := Lib.hid (b_next HW.out hb)
    clear hb x0 x1 x2 x3 y0 y1 y2 y3 HBn HBm
    go_wp2_with fail
    refine (HPS.out _).mono ?_
    rintro e w5 ⟨v_k, v_s, v_a, v_n, v_c, v_A, v_m, v_q, rfl, hnv, hb⟩
    replace HW := Lib.hid (b_next (b_next HW.out hb) (al_below w5 (.cells #[.int .i64 v_k, .string v_s, .slice v_a v_n v_c, .slice v_A v_m v_q] 25)))
    have HBv := Lib.hid (bx_make hnv)
    clear hb hnv HPS
    by_cases hE : parE P = 0
    · have hx : ∃ x, P = some x ∧ okT 2000 x = true := by
        cases P with
        | none => exact absurd hE (by decide)
        | some x =>
          cases ho : okT 2000 x with
          | true => exact ⟨x, rfl, ho⟩
          | false =>
            have : parE (some x) = 9 := if_neg (by rw [ho]; decide)
            rw [this] at hE
            exact absurd hE (by decide)
      obtain ⟨x, rfl, hox⟩ := hx
      rw [hE]
      have hDx : parD (some x) = x := if_pos hox
      rw [hDx] at HBv
      obtain ⟨hfx, hcx, hlx⟩ := HPG.out x rfl
      obtain ⟨r, hr⟩ : ∃ r, ba (wrT x) = r := ⟨_, rfl⟩
      have hrl : wrT x = r.data.toList := by rw [← hr, ba_data]
      have hrs : r.size ≤ 12004 := by rw [size_of_list hrl.symm]; exact hlx
      have HWX := Lib.hid (fun W hW => HCW.out x hox (by omega) (.int .i64 v_k) (.string v_s) (.slice v_a v_n v_c) (.slice v_A v_m v_q) W hW r hrl)
      have hpr : parP r.data.toList = some x := by
        have := parP_back hfx 0 0
        rw [show spc 0 = [] from rfl, List.nil_append, List.append_nil, hrl] at this
        exact this
      have HPR := Lib.hid (fun W => HCP.out r W (by omega) _ hpr (fun d h => by injection h with h; subst h; exact hcx))
      rw [hDx, hE] at HPR
      have HRT := Lib.hid (fun W hW => RRight_any x true hox (.int .i64 v_k) (.string v_s) (.slice v_a v_n v_c) (.slice v_A v_m v_q) W hW)
      clear hE hox hDx hfx hcx hlx hr hrl hpr HPG HCW HCP
      go_upto_region 7 with fail
      generalize w5.alloc (.cells #[.int .i64 v_k, .string v_s, .slice v_a v_n v_c, .slice v_A v_m v_q] 25) = W5 at *
      generalize w5.heap.size = gv at *
      obtain ⟨x0, x1, x2, x3⟩ := HBv.out.1.cells
      go_wp2_with fail
      refine (HWX.out _ HBv.out.2).mono ?_
      rintro e w6 ⟨rfl, hb⟩
      replace HW := Lib.hid (b_next HW.out hb)
      replace HBv := Lib.hid (HBv.out.go hb)
      clear hb x0 x1 x2 x3 HWX
      go_wp2_with fail
      refine (HPR.out _).mono ?_
      rintro e w7 ⟨y_k, y_s, y_a, y_n, y_c, y_A, y_m, y_q, rfl, hny, hb⟩
      replace HW := Lib.hid (b_next (b_next HW.out hb) (al_below w7 (.cells #[.int .i64 y_k, .string y_s, .slice y_a y_n y_c, .slice y_A y_m y_q] 25)))
      replace HBv := Lib.hid ((HBv.out.go hb).go (al_below w7 (.cells #[.int .i64 y_k, .string y_s, .slice y_a y_n y_c, .slice y_A y_m y_q] 25)))
      have HBy := Lib.hid (bx_make hny)
      clear hb hny HPR
      go_upto_region 10 with fail
      generalize w7.alloc (.cells #[.int .i64 y_k, .string y_s, .slice y_a y_n y_c, .slice y_A y_m y_q] 25) = W7 at *
      generalize w7.heap.size = gy at *
      obtain ⟨x0, x1, x2, x3⟩ := HBv.out.1.cells
      obtain ⟨y0, y1, y2, y3⟩ := HBy.out.1.cells
      go_wp2_with fail
      refine (RSame_of HBv.out.2 HBy.out.2).mono ?_
      rintro e w8 ⟨rfl, hb⟩
      replace HW := Lib.hid (b_next HW.out hb)
      replace HBv := Lib.hid (HBv.out.go hb)
      clear hb x0 x1 x2 x3 y0 y1 y2 y3 HBy
      obtain ⟨x0, x1, x2, x3⟩ := HBv.out.1.cells
      go_wp2_with fail
      refine (HRT.out _ HBv.out.2).mono ?_
      rintro e w9 ⟨rfl, hb⟩
      replace HW := Lib.hid (b_next HW.out hb)
      clear hb x0 x1 x2 x3 HBv HRT
      go_wp2_with fail
      refine (HAW.out _).mono ?_
      rintro e wA ⟨rfl, hb⟩
      go_wp2
      go_ret
      exact ⟨rfl, b_next HW.out hb⟩
    · have hD : parD P = nul := by
        cases P with
        | none => rfl
        | some x =>
          cases ho : okT 2000 x with
          | true => exact absurd (if_pos ho) hE
          | false => exact if_neg (by rw [ho]; decide)
      rw [hD] at HBv
      obtain ⟨E, hEE⟩ : ∃ E, parE P = E := ⟨_, rfl⟩
      rw [hEE] at hE ⊢
      have pE : (E != 0) = true := bne_iff_ne.2 hE
      clear hD hE hEE HPG HCW HCP
      go_upto_region 7 with fail
      generalize w5.alloc (.cells #[.int .i64 v_k, .string v_s, .slice v_a v_n v_c, .slice v_A v_m v_q] 25) = W5 at *
      generalize w5.heap.size = gv at *
      obtain ⟨x0, x1, x2, x3⟩ := HBv.out.1.cells
      go_wp2_with fail
      refine (RSame_of HBv.out.2 (nd_nul _ _)).mono ?_
      rintro e w6 ⟨rfl, hb⟩
      replace HW := Lib.hid (b_next HW.out hb)
      clear hb x0 x1 x2 x3 HBv
      go_wp2_with fail
      refine (HAW.out _).mono ?_
      rintro e w7 ⟨rfl, hb⟩
      go_wp2
      go_ret
      exact ⟨rfl, b_next HW.out hb⟩
end Go.Proofs.YtemndagaicamiaaGreatDoor
