/- The contracts of the program's areEqual (with slices.EqualFunc at nodes) and Same. -/
import Derived.Test.YtgingebdoppdbaaNodAt2
namespace Go.Proofs.Ytgingebdoppdbaa
open Go.RowKit Go.Sort
open Nw N8
set_option linter.unusedVariables false
/-- A slice that reads as a list of nodes. -/
def Kd (w : World) (v : Value) (ds : List Nd) : Prop :=
  ∃ (A : Option Addr) (cap : Nat), v = .slice A ds.length cap ∧ ds.length ≤ cap ∧ cap ≤ maxLen ∧ (A = none → cap = 0) ∧ NdK (· < w.heap.size) w ds A 0
theorem Kd.below {w w' : World} {v : Value} {ds : List Nd} (h : Kd w v ds) (hb : Below w.heap.size w w') : Kd w' v ds := by
  obtain ⟨A, cap, h1, h2, h3, h4, h5⟩ := h
  exact ⟨A, cap, h1, h2, h3, h4, NdK.keep (fun b hlt => ⟨Nat.lt_of_lt_of_le hlt hb.size, hb.block b hlt⟩) ds h5⟩
theorem Kd.kid {w : World} {A : Option Addr} {n cap : Nat} {ds : List Nd} (h : Kd w (.slice A n cap) ds) (j : Nat) (hj : j < ds.length) :
    ∃ (b o : Nat) (e0 e1 e2 e3 : Value), A = some ⟨b, o, none⟩ ∧ b < w.heap.size ∧ w.cell? ⟨b, o + j * 4, none⟩ = some e0 ∧ w.cell? ⟨b, o + j * 4 + 1, none⟩ = some e1 ∧
        w.cell? ⟨b, o + j * 4 + 2, none⟩ = some e2 ∧ w.cell? ⟨b, o + j * 4 + 3, none⟩ = some e3 ∧ NdW w (ds[j]'hj) e0 e1 e2 e3 := by
  obtain ⟨A', cap', h1, -, -, -, h5⟩ := h
  have hAe : A = A' := by injection h1
  subst hAe
  have := NdK.at_ h5 j hj
  rw [Nat.zero_add] at this
  exact this
theorem NdW.kd {w : World} {k : Int} {t : L8} {ks : List L8} {ds : List Nd} {c0 c1 c2 c3 : Value} (h : NdW w (.mk k t ks ds) c0 c1 c2 c3) : Kd w c3 ds := by
  unfold NdW at h
  rw [NdC] at h
  obtain ⟨-, -, -, h⟩ := h
  exact h
theorem ndw_mk {w : World} {k : Int} {t : L8} {ks : List L8} {ds : List Nd} {c2 c3 : Value} (h2 : Rd w c2 ks) (h3 : Kd w c3 ds) : NdW w (.mk k t ks ds) (.int .i64 k) (.string (ba t)) c2 c3 := by
  unfold NdW
  rw [NdC]
  exact ⟨rfl, rfl, h2, h3⟩
theorem Kd.shape {w : World} {v : Value} {ds : List Nd} (h : Kd w v ds) : ∃ (A : Option Addr) (cap : Nat), v = .slice A ds.length cap ∧ ds.length ≤ cap ∧ cap ≤ maxLen := by
  obtain ⟨A, cap, h1, h2, h3, -⟩ := h
  exact ⟨A, cap, h1, h2, h3⟩
def SameOf (N : Nat) : Prop := ∀ (d e : Nd), cntT d ≤ N → ∀ (r : Bool), sameT d e = r → ∀ (c0 c1 c2 c3 u0 u1 u2 u3 : Value) (w : World), NdW w d c0 c1 c2 c3 → NdW w e u0 u1 u2 u3 →
    Calls Try.prog 39 #[.agg #[c0, c1, c2, c3], .agg #[u0, u1, u2, u3]] w fun x w' => x = .returned (.bool r) ∧ Below w.heap.size w w'
set_option maxRecDepth 100000 in
set_option maxHeartbeats 8000000 in
theorem EqualFunc_any (N : Nat) (ih : SameOf N) (ds es : List Nd) (hN : cntL ds ≤ N) (r : Bool) (hr : sameL ds es = r) (v u : Value) (w : World) (hd : Kd w v ds) (he : Kd w u es) :
    Calls Try.prog 54 #[v, u, .func (.func 39) #[] #[]] w fun x w' => x = .returned (.bool r) ∧ Below w.heap.size w w' := by
  have eg : ∀ args w, (callFunc 39 args).run Try.prog w = .ok (.enter 39 args) w := enters_of Try.func39 (by kernel_rfl) rfl
  have HD0 := Lib.hid hd
  have HE0 := Lib.hid he
  obtain ⟨A, cap, rfl, hcap, hm⟩ := hd.shape
  obtain ⟨A', cap', rfl, hcap', hm'⟩ := he.shape
  have HIH := Lib.hid ih
  have HCN := Lib.hid hN
  have HR0 := Lib.hid hr
  obtain ⟨n, hn⟩ : ∃ n, ds.length = n := ⟨_, rfl⟩
  have HN := Lib.hid hn
  obtain ⟨n', hn'⟩ : ∃ n', es.length = n' := ⟨_, rfl⟩
  have HN' := Lib.hid hn'
  rw [hn] at HD0 hcap ⊢
  rw [hn'] at HE0 hcap' ⊢
  unfold maxLen at hm hm'
  have hn63 : n ≤ 9223372036854775807 := by omega
  have hn63' : n' ≤ 9223372036854775807 := by omega
  clear ih hd he hn hn' hN hr
  by_cases hnn : n = n'
  · subst hnn
    have HB0 : Hid (Below w.heap.size w w) := Lib.hid (Below.refl _ _)
    go_enter Try.func54, Try.ntmps54
    go_wp2
    go_loopw [7, 8, 9, 17] (fun s7 s8 s9 si wr => ∃ (i : Nat), i ≤ n ∧ si = .int .i64 (i : Int) ∧ Hid (Below w.heap.size w wr) ∧ Hid (∀ (l : Nat) (hl : l < ds.length) (gl : l < es.length), l < i → sameT (ds[l]'hl) (es[l]'gl) = true)) (fun _ _ _ si _ => n - (intOf si).toNat)
    case atStart => exact ⟨0, Nat.zero_le _, rfl, HB0, Lib.hid fun l _ _ h => absurd h (Nat.not_lt_zero _)⟩
    case round =>
      clear HB0
      obtain ⟨i, hi, rfl, HB, HK⟩ := hrel
      by_cases hin : i < n
      · have hil : i < ds.length := by rw [HN.out]; exact hin
        have gil : i < es.length := by rw [HN'.out]; exact hin
        have hiz : (i : Int) < (n : Int) := by omega
        obtain ⟨b, o, e0, e1, e2, e3, rfl, hb, y0, y1, y2, y3, hnd⟩ := (HD0.out.below HB.out).kid i hil
        obtain ⟨b', o', f0, f1, f2, f3, rfl, hb', z0, z1, z2, z3, hne⟩ := (HE0.out.below HB.out).kid i gil
        obtain ⟨k1, s1, a1, n1, q1, A1, m1, r1, rfl, rfl, rfl, rfl⟩ := ndw_shape hnd
        obtain ⟨k2, s2, a2, n2, q2, A2, m2, r2, rfl, rfl, rfl, rfl⟩ := ndw_shape hne
        have hck : cntT (ds[i]'hil) ≤ cntL ds := cntL_mem (List.getElem_mem hil)
        have hal : Below wr.heap.size wr (wr.alloc (.cells #[.int .i64 k1, .string s1, .slice a1 n1 q1, .slice A1 m1 r1] 25)) := (Below.refl _ _).alloc (Nat.le_refl _) _
        have hal2 : Below wr.heap.size wr ((wr.alloc (.cells #[.int .i64 k1, .string s1, .slice a1 n1 q1, .slice A1 m1 r1] 25)).alloc (.cells #[.int .i64 k2, .string s2, .slice a2 n2 q2, .slice A2 m2 r2] 25)) := hal.alloc hal.size _
        have z0' := (hal.cell (p := ⟨b', o' + i * 4, none⟩) hb').trans z0
        have z1' := (hal.cell (p := ⟨b', o' + i * 4 + 1, none⟩) hb').trans z1
        have z2' := (hal.cell (p := ⟨b', o' + i * 4 + 2, none⟩) hb').trans z2
        have z3' := (hal.cell (p := ⟨b', o' + i * 4 + 3, none⟩) hb').trans z3
        have HB1 := Lib.hid (belowNext HB.out hal2)
        obtain ⟨q, hq⟩ : ∃ q, sameT (ds[i]'hil) (es[i]'gil) = q := ⟨_, rfl⟩
        have HQ := Lib.hid hq
        have HR := Lib.hid (HIH.out (ds[i]'hil) (es[i]'gil) (by have := HCN.out; omega) q hq _ _ _ _ _ _ _ _ _ (hnd.below hal2) (hne.below hal2))
        clear hnd hne hck hal hal2 hq
        cases q with
        | true =>
          go_wp2_with (go_at_fn 39; refine HR.out.mono ?_; rintro e w2 ⟨rfl, hb2⟩)
          have HB2 := Lib.hid (belowNext HB1.out hb2)
          clear hb2
          go_roundw
          case measure => simp [intOf]; omega
          case rel =>
            refine ⟨i + 1, by omega, by go_num, HB2, Lib.hid fun l hl gl hli => ?_⟩
            rcases Nat.lt_succ_iff_lt_or_eq.1 hli with h | rfl
            · exact HK.out l hl gl h
            · exact HQ.out
        | false =>
          have HE : Hid (r = false) := Lib.hid (by rw [← HR0.out]; exact sameL_no hil gil HQ.out)
          go_wp2_with (go_at_fn 39; refine HR.out.mono ?_; rintro e w2 ⟨rfl, hb2⟩)
          go_ret
          exact ⟨ret_b HE.out.symm, belowNext HB1.out hb2⟩
      · obtain rfl : i = n := by omega
        have HE : Hid (r = true) := Lib.hid (by rw [← HR0.out]; exact sameL_all (by rw [HN.out, HN'.out]) fun l hl gl => HK.out l hl gl (by rw [← HN.out]; exact hl))
        go_wp2
        go_ret
        exact ⟨ret_b HE.out.symm, HB.out⟩
  · have HE : Hid (r = false) := Lib.hid (by rw [← HR0.out]; exact sameL_ne (by rw [HN.out, HN'.out]; exact hnn))
    have p1 : ((n : Int) != (n' : Int)) = true := bne_iff_ne.2 (by omega)
    go_enter Try.func54, Try.ntmps54
    go_wp2
    go_ret
    exact ⟨ret_b HE.out.symm, Below.refl _ _⟩
theorem Same_q (v u : Value) (l m : List L8) (w : World) (h : Rd w v l) (k : Rd w u m) (b : Bool) (hb : decide (l = m) = b) :
    Calls Try.prog 53 #[v, u] w fun e w' => e = .returned (.bool b) ∧ Below w.heap.size w w' := by
  subst hb; exact Same_any v u l m w h k
set_option maxRecDepth 100000 in
set_option maxHeartbeats 8000000 in
theorem areEqual_any (N : Nat) : SameOf N := by
  induction N with
  | zero => intro d _ h; have := cntT_pos d; omega
  | succ N ih =>
    intro d e hN r hr c0 c1 c2 c3 u0 u1 u2 u3 w hd he
    cases d with
    | mk k t ks ds =>
      cases e with
      | mk k' t' ks' es =>
        have HB0 := Lib.hid (Boxed2.make hd he)
        obtain ⟨rfl, rfl, hks, A, cap, rfl, hcap, hm, -, -⟩ := hd.parts
        obtain ⟨rfl, rfl, hks', A', cap', rfl, hcap', hm', -, -⟩ := he.parts
        have hcN : cntL ds ≤ N := by rw [cntT] at hN; omega
        have HEF := Lib.hid (fun q hq v u W => EqualFunc_any N ih ds es hcN q hq v u W)
        rw [sameT] at hr
        have HR0 := Lib.hid hr
        generalize ds.length = n at *
        generalize es.length = n' at *
        clear ih hd he hcN hN hr hks hks'
        by_cases hk : k = k'
        · subst hk
          by_cases ht : t = t'
          · subst ht
            obtain ⟨T, hT⟩ : ∃ T, ba t = T := ⟨_, rfl⟩
            rw [hT] at HB0 ⊢
            by_cases hkk : ks = ks'
            · subst hkk
              have HKS := Lib.hid (fun W hW hW' => Same_q c2 u2 ks ks W hW hW' true (decide_eq_true rfl))
              obtain ⟨q, hq⟩ : ∃ q, sameL ds es = q := ⟨_, rfl⟩
              have HE : Hid (r = q) := Lib.hid (by rw [← HR0.out, decide_eq_true rfl, decide_eq_true rfl, decide_eq_true rfl, hq]; rfl)
              have HQ := Lib.hid (HEF.out q hq)
              clear hT hq HEF HR0
              go_enter Try.func39, Try.ntmps39
              obtain ⟨x0, x1, x2, x3⟩ := HB0.out.2.1.cells
              obtain ⟨y0, y1, y2, y3⟩ := HB0.out.2.2.1.cells
              go_wp2_with fail
              refine (HKS.out _ HB0.out.2.2.2.1.parts.2.2.1 HB0.out.2.2.2.2.parts.2.2.1).mono ?_
              rintro e w2 ⟨rfl, hb2⟩
              have HB2 := Lib.hid (HB0.out.go hb2)
              clear hb2 x0 x1 x2 x3 y0 y1 y2 y3
              obtain ⟨x0, x1, x2, x3⟩ := HB2.out.2.1.cells
              obtain ⟨y0, y1, y2, y3⟩ := HB2.out.2.2.1.cells
              go_wp2_with fail
              refine (HQ.out _ _ _ HB2.out.2.2.2.1.kd HB2.out.2.2.2.2.kd).mono ?_
              rintro e w3 ⟨rfl, hb3⟩
              go_wp2
              go_ret
              exact ⟨ret_b HE.out.symm, (HB2.out.go hb3).1⟩
            · have HKS := Lib.hid (fun W hW hW' => Same_q c2 u2 ks ks' W hW hW' false (decide_eq_false hkk))
              have HE : Hid (r = false) := Lib.hid (by rw [← HR0.out, decide_eq_false hkk, Bool.and_false, Bool.false_and])
              clear hT hkk HEF HR0
              go_enter Try.func39, Try.ntmps39
              obtain ⟨x0, x1, x2, x3⟩ := HB0.out.2.1.cells
              obtain ⟨y0, y1, y2, y3⟩ := HB0.out.2.2.1.cells
              go_wp2_with fail
              refine (HKS.out _ HB0.out.2.2.2.1.parts.2.2.1 HB0.out.2.2.2.2.parts.2.2.1).mono ?_
              rintro e w2 ⟨rfl, hb2⟩
              go_wp2
              go_ret
              exact ⟨ret_b HE.out.symm, (HB0.out.go hb2).1⟩
          · have p2 := toList_beq ht
            have HE : Hid (r = false) := Lib.hid (by rw [← HR0.out, decide_eq_false ht, Bool.and_false, Bool.false_and, Bool.false_and])
            obtain ⟨T, hT⟩ : ∃ T, ba t = T := ⟨_, rfl⟩
            obtain ⟨T', hT'⟩ : ∃ T, ba t' = T := ⟨_, rfl⟩
            rw [hT] at HB0 p2 ⊢
            rw [hT'] at HB0 p2 ⊢
            clear hT hT' ht HEF HR0
            go_enter Try.func39, Try.ntmps39
            obtain ⟨x0, x1, x2, x3⟩ := HB0.out.2.1.cells
            obtain ⟨y0, y1, y2, y3⟩ := HB0.out.2.2.1.cells
            go_wp2
            go_ret
            exact ⟨ret_b HE.out.symm, HB0.out.1⟩
        · have p1 : (k == k') = false := beq_eq_false_iff_ne.2 hk
          have HE : Hid (r = false) := Lib.hid (by rw [← HR0.out, decide_eq_false hk]; rfl)
          clear hk HEF HR0
          go_enter Try.func39, Try.ntmps39
          obtain ⟨x0, x1, x2, x3⟩ := HB0.out.2.1.cells
          obtain ⟨y0, y1, y2, y3⟩ := HB0.out.2.2.1.cells
          go_wp2
          go_ret
          exact ⟨ret_b HE.out.symm, HB0.out.1⟩
set_option maxHeartbeats 4000000 in
theorem Same_node (d e : Nd) (hc : cntT d ≤ 65536) (r : Bool) (hr : sameT d e = r) (c0 c1 c2 c3 u0 u1 u2 u3 : Value) (w : World) (hd : NdW w d c0 c1 c2 c3) (he : NdW w e u0 u1 u2 u3) :
    Calls Try.prog 17 #[.agg #[c0, c1, c2, c3], .agg #[u0, u1, u2, u3]] w fun x w' => x = .returned (.bool r) ∧ Below w.heap.size w w' := by
  have HB0 := Lib.hid (Boxed2.make hd he)
  have HC := Lib.hid (fun W hW => Count_any d (by omega) c0 c1 c2 c3 W hW)
  have HE := Lib.hid (fun W => areEqual_any (cntT d) d e (Nat.le_refl _) r hr c0 c1 c2 c3 u0 u1 u2 u3 W)
  have hcz : (cntT d : Int) ≤ 65536 := by omega
  obtain ⟨C, hC⟩ : ∃ C, (cntT d : Int) = C := ⟨_, rfl⟩
  rw [hC] at HC hcz
  clear hd he hr hc hC
  go_enter Try.func17, Try.ntmps17
  obtain ⟨x0, x1, x2, x3⟩ := HB0.out.2.1.cells
  go_wp2_with fail
  refine (HC.out _ HB0.out.2.2.2.1).mono ?_
  rintro e w2 ⟨rfl, hb2⟩
  have HB2 := Lib.hid (HB0.out.go hb2)
  clear hb2 x0 x1 x2 x3
  obtain ⟨x0, x1, x2, x3⟩ := HB2.out.2.1.cells
  obtain ⟨y0, y1, y2, y3⟩ := HB2.out.2.2.1.cells
  go_wp2_with fail
  refine (HE.out _ HB2.out.2.2.2.1 HB2.out.2.2.2.2).mono ?_
  rintro e w3 ⟨rfl, hb3⟩
  go_wp2
  go_ret
  exact ⟨rfl, (HB2.out.go hb3).1⟩
end Go.Proofs.Ytgingebdoppdbaa
