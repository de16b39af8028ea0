/- TmpRef -/
import Derived.Test.YtkcilmmaggmmoaaGreatDoorNT35
import Derived.Test.YtkcilmmaggmmoaaGreatDoorNT6
set_option linter.unusedVariables false
set_option linter.unusedSimpArgs false
set_option maxRecDepth 100000
set_option maxHeartbeats 16000000
open Go.Lib (hid)
namespace Go.Proofs.YtkcilmmaggmmoaaGreatDoor
namespace Nw
end Nw
namespace T13
end T13
end Go.Proofs.YtkcilmmaggmmoaaGreatDoor
namespace Go.Proofs.YtkcilmmaggmmoaaGreatDoor
section
open Go.RowKit Go.Sort
open Nw T13 Go.ChangeShapes Go.WideShapes
def RY (w W : World) (g : Nat) (u : ByteArray) : Prop :=
 RowT W w.heap.size 73 (.string ⟨#[]⟩) (.string ⟨#[]⟩) (.int .i64 0) (.slice none 0 0) ∧ RdB W g u ∧ w.grownBy W (some g) ∧ Ops8 W
section
variable {w W W' : World} {g : Nat} {u u' : ByteArray}
theorem RY.make (hR : RdB w g u) (hO : Ops8 w) : RY w (w.alloc (.cells #[.string ⟨#[]⟩, .string ⟨#[]⟩, .int .i64 0, .slice none 0 0] 73)) g u := by
 have hb : Below w.heap.size w (w.alloc (.cells #[.string ⟨#[]⟩, .string ⟨#[]⟩, .int .i64 0, .slice none 0 0] 73)) := (Below.refl _ _).alloc (Nat.le_refl _) _
 exact ⟨RowT.make w _ _ _ _ _, hR.below hb, World.grownBy_alloc _ _ _, hO.keep hb⟩
theorem RY.go (hg : g < w.heap.size) (h : RY w W g u) (hR : RdB W' g u') (hb : W.grownBy W' (some g)) : RY w W' g u' :=
 ⟨h.1.grown hb fun e => (by injection e with e; omega), hR, h.2.2.1.trans hb, h.2.2.2.grown h.2.1 hb⟩
theorem RY.below (h : RY w W g u) (hb : Below W.heap.size W W') : RY w W' g u :=
 ⟨h.1.below hb, h.2.1.below hb, gro_below h.2.2.1 hb, h.2.2.2.keep hb⟩
theorem RY.size (h : RY w W g u) : w.heap.size + 1 ≤ W.heap.size := h.1.lt
end
theorem var_any (n : ByteArray) (b : Bool) (hb : isN n.data.toList = b) (hn : n.size ≤ 100000) (w : World) :
  Calls Tryz.prog 70 #[.string n] w fun e w' => e = .returned (.bool b) ∧ Below w.heap.size w w' := by
 refine (Variable_any n w (by unfold maxLen; omega)).mono ?_
 rintro e w' ⟨rfl, h⟩
 exact ⟨ret_b13 hb, h⟩
theorem readRef_of (n : Nat) (H : PartsOf n) (d g : Nat) (w : World) (s : ByteArray) (t : L8) (hst : s.data.toList = 36 :: t) (hn : s.size ≤ n) (hs : s.size ≤ 100000) (hd : d ≤ 8) (hR : RdB w g s) (hO : Ops8 w) :
  Calls Tryz.prog 53 #[.pointer (some ⟨g, 0, none⟩), .int .i64 (d : Int)] w (GivesO w g (rfA (d + 1) t)) := by
 have hg := hR.lt
 have HGL := hid hg
 have hY := RY.make hR hO
 obtain ⟨x0, x1, x2, x3⟩ := hY.1.cells
 obtain ⟨f0, f1, f2, f3⟩ := hY.1.frozen
 by_cases h8 : d = 8
 ·subst h8
  have HR : Hid (rfA (8 + 1) t = .bad 9) := hid (by unfold rfA; rw [if_pos (by decide)])
  have HY := hid hY
  clear hY hR hO hst hn hs hg H hd
  go_enter Tryz.func53, Tryz.ntmps53
  go_wp2
  refine bodyPost_ret (v := .tuple #[.agg #[.string ⟨#[]⟩, .string ⟨#[]⟩, .int .i64 0, .slice none 0 0], .int .i64 9]) (by simp [results, Tryz.results53, go_sem, x0, x1, x2, x3]) rfl ?_
  rw [HR.out]
  exact ⟨s, HY.out.2.1, HY.out.2.2.1, rfl⟩
 have hd8 : ((d : Int) == 8) = false := beq_eq_false_iff_ne.2 (by omega)
 have hdz : (d : Int) ≤ 8 := by omega
 have hd9 : ¬ 8 < d + 1 := by omega
 have hlen : s.size = t.length + 1 := by rw [← len13, hst, List.length_cons]
 have hp1 : (1 : Int) ≤ (s.size : Int) := by omega
 obtain ⟨s1, hs1⟩ : ∃ s1, s.extract 1 s.size = s1 := ⟨_, rfl⟩
 have hs1t : s1.data.toList = t := by rw [← hs1, rest13, hst]; rfl
 obtain ⟨c0, k0⟩ := hY.2.1.cells
 have HY1 : Hid (RY w ((w.alloc (.cells #[.string ⟨#[]⟩, .string ⟨#[]⟩, .int .i64 0, .slice none 0 0] 73)).setCell ⟨g, 0, none⟩ (.string s1)) g s1) := hid (hY.go hg (hY.2.1.set s1).1 (hY.2.1.set s1).2)
 clear x0 x1 x2 x3 f0 f1 f2 f3
 have hpre := pre_one 123 t (by decide)
 by_cases hb : t.getD 0 0 = 123
 ·obtain ⟨u, hu⟩ : ∃ u : ByteArray, u.data.toList = t.drop 1 := ⟨ba _, ba_data _⟩
  have HTK := hid (fun (W : World) (h : RdB W g s1) => take_any ⟨#[123]⟩ u true h (by show pre [123] _ = true; rw [hs1t, hpre]; exact decide_eq_true hb) (by rw [if_pos rfl, hs1t]; exact hu))
  have hul : u.size ≤ t.length := by rw [← len13, hu, List.length_drop]; omega
  obtain ⟨nm, hnm⟩ : ∃ nm : ByteArray, nm.data.toList = u.data.toList.take (lenN u.data.toList) := ⟨ba _, ba_data _⟩
  obtain ⟨q, hq⟩ : ∃ q : ByteArray, q.data.toList = u.data.toList.drop (lenN u.data.toList) := ⟨ba _, ba_data _⟩
  have hnl : nm.size ≤ 100000 := by rw [← len13, hnm, List.length_take, len13]; omega
  have hql : q.size ≤ t.length := by rw [← len13, hq, List.length_drop, len13]; omega
  have HTN := hid (fun (W : World) (h : RdB W g u) => takeName_any nm q h (by omega) hnm hq)
  have hrf : rfA (d + 1) t = (if isN nm.data.toList = false then .bad 3 else brA (d + 1) nm.data.toList q.data.toList) := by
   unfold rfA
   rw [if_neg hd9, if_pos hb, hnm, hq, hu]
  cases hv : isN nm.data.toList with
  | false =>
   rw [hv, if_pos rfl] at hrf
   have HR := hid hrf
   have HV := hid (fun W => var_any nm false hv hnl W)
   clear hst hn hs hg H hd hR hO hY hlen hd9 hs1t hpre hb hu hul hnm hq hnl hql hrf hv
   go_enter Tryz.func53, Tryz.ntmps53
   go_wp2_with first
    | (go_at_call 68; refine (HTK.out _ HY1.out.2.1).mono ?_; rintro e W2 ⟨rfl, r2, g2⟩; have HY2 := hid (HY1.out.go HGL.out r2 g2); clear r2 g2)
    | (go_at_call 69; refine (HTN.out _ HY2.out.2.1).mono ?_; rintro e W3 ⟨rfl, r3, g3⟩; have HY3 := hid (HY2.out.go HGL.out r3 g3); have HY4 := hid (HY3.out.below ((Below.refl _ _).alloc (Nat.le_refl _) (.cells #[.string nm, .string ⟨#[]⟩, .int .i64 1, .slice none 0 0] 73))); have hP := RowT.make W3 73 (.string nm) (.string ⟨#[]⟩) (.int .i64 1) (.slice none 0 0); obtain ⟨p0, p1, p2, p3⟩ := hP.cells; have HP4 := hid hP; clear r3 g3 hP)
    | (go_at_call 70; refine (HV.out _).mono ?_; rintro e W5 ⟨rfl, b5⟩; have HY5 := hid (HY4.out.below b5); have hP := HP4.out.below b5; obtain ⟨m0, m1, m2, m3⟩ := hP.cells; obtain ⟨z0, z1, z2, z3⟩ := HY5.out.1.cells; obtain ⟨f0, f1, f2, f3⟩ := HY5.out.1.frozen; clear b5 hP)
   refine bodyPost_ret (v := .tuple #[.agg #[.string ⟨#[]⟩, .string ⟨#[]⟩, .int .i64 0, .slice none 0 0], .int .i64 3]) (by simp [results, Tryz.results53, go_sem, z0, z1, z2, z3]) rfl ?_
   rw [HR.out]
   have hsz := HY5.out.size
   have hgl := HGL.out
   exact ⟨q, (put4_oth W5 w.heap.size _ _ _ _ g (by omega)).trans HY5.out.2.1, grown_put4 HY5.out.2.2.1 (by omega) _ _ _ _, rfl⟩
  | true =>
   rw [hv, if_neg (by decide)] at hrf
   have HV := hid (fun W => var_any nm true hv hnl W)
   have HB : Hid (∀ (W : World), RdB W g q → Ops8 W → Calls Tryz.prog 71 #[.pointer (some ⟨g, 0, none⟩), .agg #[.string nm, .string ⟨#[]⟩, .int .i64 1, .slice none 0 0], .int .i64 ((d : Int) + 1)] W (GivesO W g (brA (d + 1) nm.data.toList q.data.toList))) := hid (fun W hr ho => readBraced_of n H (d + 1) g W q nm (by omega) (by omega) (by omega) hr ho)
   cases hbr : brA (d + 1) nm.data.toList q.data.toList with
   | bad er =>
    rw [hbr] at hrf HB
    have HR := hid hrf
    clear hst hn hs hg H hd hR hO hY hlen hd9 hs1t hpre hb hu hul hnm hq hnl hql hrf hv hbr
    go_enter Tryz.func53, Tryz.ntmps53
    go_wp2_with first
     | (go_at_call 68; refine (HTK.out _ HY1.out.2.1).mono ?_; rintro e W2 ⟨rfl, r2, g2⟩; have HY2 := hid (HY1.out.go HGL.out r2 g2); clear r2 g2)
     | (go_at_call 69; refine (HTN.out _ HY2.out.2.1).mono ?_; rintro e W3 ⟨rfl, r3, g3⟩; have HY3 := hid (HY2.out.go HGL.out r3 g3); have HY4 := hid (HY3.out.below ((Below.refl _ _).alloc (Nat.le_refl _) (.cells #[.string nm, .string ⟨#[]⟩, .int .i64 1, .slice none 0 0] 73))); have hP := RowT.make W3 73 (.string nm) (.string ⟨#[]⟩) (.int .i64 1) (.slice none 0 0); obtain ⟨p0, p1, p2, p3⟩ := hP.cells; have HP4 := hid hP; clear r3 g3 hP)
     | (go_at_call 70; refine (HV.out _).mono ?_; rintro e W5 ⟨rfl, b5⟩; have HY5 := hid (HY4.out.below b5); have hP := HP4.out.below b5; obtain ⟨m0, m1, m2, m3⟩ := hP.cells; obtain ⟨z0, z1, z2, z3⟩ := HY5.out.1.cells; obtain ⟨f0, f1, f2, f3⟩ := HY5.out.1.frozen; clear b5 hP)
     | (go_at_call 71; refine (HB.out _ HY5.out.2.1 HY5.out.2.2.2).mono ?_; rintro e W6 ⟨q6, r6, g6, rfl⟩; have HY6 := hid (HY5.out.go HGL.out r6 g6); clear z0 z1 z2 z3 f0 f1 f2 f3; obtain ⟨z0, z1, z2, z3⟩ := HY6.out.1.cells; obtain ⟨f0, f1, f2, f3⟩ := HY6.out.1.frozen; clear r6 g6)
    refine bodyPost_ret (v := .tuple #[.agg #[.string ⟨#[]⟩, .string ⟨#[]⟩, .int .i64 0, .slice none 0 0], .int .i64 er]) (by simp [results, Tryz.results53, go_sem, z0, z1, z2, z3]) rfl ?_
    rw [HR.out]
    have hsz := HY6.out.size
    have hgl := HGL.out
    exact ⟨q6, (put4_oth W6 w.heap.size _ _ _ _ g (by omega)).trans HY6.out.2.1, grown_put4 HY6.out.2.2.1 (by omega) _ _ _ _, rfl⟩
   | good p r =>
    rw [hbr] at hrf HB
    have HR := hid hrf
    clear hst hn hs hg H hd hR hO hY hlen hd9 hs1t hpre hb hu hul hnm hq hnl hql hrf hv hbr
    go_enter Tryz.func53, Tryz.ntmps53
    go_wp2_with first
     | (go_at_call 68; refine (HTK.out _ HY1.out.2.1).mono ?_; rintro e W2 ⟨rfl, r2, g2⟩; have HY2 := hid (HY1.out.go HGL.out r2 g2); clear r2 g2)
     | (go_at_call 69; refine (HTN.out _ HY2.out.2.1).mono ?_; rintro e W3 ⟨rfl, r3, g3⟩; have HY3 := hid (HY2.out.go HGL.out r3 g3); have HY4 := hid (HY3.out.below ((Below.refl _ _).alloc (Nat.le_refl _) (.cells #[.string nm, .string ⟨#[]⟩, .int .i64 1, .slice none 0 0] 73))); have hP := RowT.make W3 73 (.string nm) (.string ⟨#[]⟩) (.int .i64 1) (.slice none 0 0); obtain ⟨p0, p1, p2, p3⟩ := hP.cells; have HP4 := hid hP; clear r3 g3 hP)
     | (go_at_call 70; refine (HV.out _).mono ?_; rintro e W5 ⟨rfl, b5⟩; have HY5 := hid (HY4.out.below b5); have hP := HP4.out.below b5; obtain ⟨m0, m1, m2, m3⟩ := hP.cells; obtain ⟨z0, z1, z2, z3⟩ := HY5.out.1.cells; obtain ⟨f0, f1, f2, f3⟩ := HY5.out.1.frozen; clear b5 hP)
     | (go_at_call 71; refine (HB.out _ HY5.out.2.1 HY5.out.2.2.2).mono ?_; rintro e W6 ⟨q6, r6, g6, c0', c1', c2', c3', rfl, hpc, hqr⟩; obtain ⟨N9, T9, o9, A9, n9, k9, rfl, rfl, rfl, rfl⟩ := hpc.shape; have HPC := hid hpc; have HQR := hid hqr; have HY6 := hid (HY5.out.go HGL.out r6 g6); clear z0 z1 z2 z3 f0 f1 f2 f3; obtain ⟨z0, z1, z2, z3⟩ := HY6.out.1.cells; obtain ⟨f0, f1, f2, f3⟩ := HY6.out.1.frozen; clear r6 g6 hpc hqr)
    refine bodyPost_ret (v := .tuple #[.agg #[.string N9, .string T9, .int .i64 o9, .slice A9 n9 k9], .int .i64 0]) (by simp [results, Tryz.results53, go_sem, z0, z1, z2, z3]) rfl ?_
    rw [HR.out]
    have hsz := HY5.out.size
    have hsz6 := HY6.out.size
    have hgl := HGL.out
    refine ⟨q6, (put4_oth W6 w.heap.size _ _ _ _ g (by omega)).trans HY6.out.2.1, grown_put4 HY6.out.2.2.1 (by omega) _ _ _ _, _, _, _, _, rfl, PtC.keep (fun b hb => ⟨⟨by have := hb.1; omega, by show b < (put4 _ _ _ _ _ _).heap.size; rw [put4_size]; exact hb.2⟩, ?_⟩) _ HPC.out, HQR.out⟩
    exact put4_oth W6 w.heap.size _ _ _ _ b (by have := hb.1; omega)
 ·obtain ⟨u, hu⟩ : ∃ u : ByteArray, u.data.toList = t := ⟨s1, hs1t⟩
  have HTK := hid (fun (W : World) (h : RdB W g s1) => take_any ⟨#[123]⟩ u false h (by show pre [123] _ = false; rw [hs1t, hpre]; exact decide_eq_false hb) (by rw [hu, ← hs1t]; rfl))
  have hul : u.size ≤ t.length := by rw [← len13, hu]; exact Nat.le_refl _
  obtain ⟨nm, hnm⟩ : ∃ nm : ByteArray, nm.data.toList = u.data.toList.take (lenN u.data.toList) := ⟨ba _, ba_data _⟩
  obtain ⟨q, hq⟩ : ∃ q : ByteArray, q.data.toList = u.data.toList.drop (lenN u.data.toList) := ⟨ba _, ba_data _⟩
  have hnl : nm.size ≤ 100000 := by rw [← len13, hnm, List.length_take, len13]; omega
  have hql : q.size ≤ t.length := by rw [← len13, hq, List.length_drop, len13]; omega
  have HTN := hid (fun (W : World) (h : RdB W g u) => takeName_any nm q h (by omega) hnm hq)
  have hrf : rfA (d + 1) t = (if isN nm.data.toList = false then .bad 3 else .good (.mk nm.data.toList [] 1 []) q.data.toList) := by
   unfold rfA
   rw [if_neg hd9, if_neg hb, hnm, hq, hu]
  cases hv : isN nm.data.toList with
  | false =>
   rw [hv, if_pos rfl] at hrf
   have HR := hid hrf
   have HV := hid (fun W => var_any nm false hv hnl W)
   clear hst hn hs hg H hd hR hO hY hlen hd9 hs1t hpre hb hu hul hnm hq hnl hql hrf hv
   go_enter Tryz.func53, Tryz.ntmps53
   go_wp2_with first
    | (go_at_call 68; refine (HTK.out _ HY1.out.2.1).mono ?_; rintro e W2 ⟨rfl, r2, g2⟩; have HY2 := hid (HY1.out.go HGL.out r2 g2); clear r2 g2)
    | (go_at_call 69; refine (HTN.out _ HY2.out.2.1).mono ?_; rintro e W3 ⟨rfl, r3, g3⟩; have HY3 := hid (HY2.out.go HGL.out r3 g3); have HY4 := hid (HY3.out.below ((Below.refl _ _).alloc (Nat.le_refl _) (.cells #[.string nm, .string ⟨#[]⟩, .int .i64 1, .slice none 0 0] 73))); have hP := RowT.make W3 73 (.string nm) (.string ⟨#[]⟩) (.int .i64 1) (.slice none 0 0); obtain ⟨p0, p1, p2, p3⟩ := hP.cells; have HP4 := hid hP; clear r3 g3 hP)
    | (go_at_call 70; refine (HV.out _).mono ?_; rintro e W5 ⟨rfl, b5⟩; have HY5 := hid (HY4.out.below b5); have hP := HP4.out.below b5; obtain ⟨m0, m1, m2, m3⟩ := hP.cells; obtain ⟨z0, z1, z2, z3⟩ := HY5.out.1.cells; obtain ⟨f0, f1, f2, f3⟩ := HY5.out.1.frozen; clear b5 hP)
   refine bodyPost_ret (v := .tuple #[.agg #[.string ⟨#[]⟩, .string ⟨#[]⟩, .int .i64 0, .slice none 0 0], .int .i64 3]) (by simp [results, Tryz.results53, go_sem, z0, z1, z2, z3]) rfl ?_
   rw [HR.out]
   have hsz := HY5.out.size
   have hgl := HGL.out
   exact ⟨q, (put4_oth W5 w.heap.size _ _ _ _ g (by omega)).trans HY5.out.2.1, grown_put4 HY5.out.2.2.1 (by omega) _ _ _ _, rfl⟩
  | true =>
   rw [hv, if_neg (by decide)] at hrf
   have HV := hid (fun W => var_any nm true hv hnl W)
   have HR := hid hrf
   clear hst hn hs hg H hd hR hO hY hlen hd9 hs1t hpre hb hu hul hnm hq hnl hql hrf hv
   go_enter Tryz.func53, Tryz.ntmps53
   go_wp2_with first
    | (go_at_call 68; refine (HTK.out _ HY1.out.2.1).mono ?_; rintro e W2 ⟨rfl, r2, g2⟩; have HY2 := hid (HY1.out.go HGL.out r2 g2); clear r2 g2)
    | (go_at_call 69; refine (HTN.out _ HY2.out.2.1).mono ?_; rintro e W3 ⟨rfl, r3, g3⟩; have HY3 := hid (HY2.out.go HGL.out r3 g3); have HY4 := hid (HY3.out.below ((Below.refl _ _).alloc (Nat.le_refl _) (.cells #[.string nm, .string ⟨#[]⟩, .int .i64 1, .slice none 0 0] 73))); have hP := RowT.make W3 73 (.string nm) (.string ⟨#[]⟩) (.int .i64 1) (.slice none 0 0); obtain ⟨p0, p1, p2, p3⟩ := hP.cells; have HP4 := hid hP; clear r3 g3 hP)
    | (go_at_call 70; refine (HV.out _).mono ?_; rintro e W5 ⟨rfl, b5⟩; have HY5 := hid (HY4.out.below b5); have hP := HP4.out.below b5; obtain ⟨m0, m1, m2, m3⟩ := hP.cells; obtain ⟨z0, z1, z2, z3⟩ := HY5.out.1.cells; obtain ⟨f0, f1, f2, f3⟩ := HY5.out.1.frozen; clear b5 hP)
   refine bodyPost_ret (v := .tuple #[.agg #[.string nm, .string ⟨#[]⟩, .int .i64 1, .slice none 0 0], .int .i64 0]) (by simp [results, Tryz.results53, go_sem, z0, z1, z2, z3]) rfl ?_
   rw [HR.out]
   have hsz := HY5.out.size
   have hgl := HGL.out
   exact ⟨q, (put4_oth W5 w.heap.size _ _ _ _ g (by omega)).trans HY5.out.2.1, grown_put4 HY5.out.2.2.1 (by omega) _ _ _ _, _, _, _, _, rfl, ptC_none _ _ nm, rfl⟩
end
end Go.Proofs.YtkcilmmaggmmoaaGreatDoor
