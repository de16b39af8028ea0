/- TmpPar -/
import Derived.Test.YtkcilmmaggmmoaaGreatDoorNT33
import Derived.Test.YtkcilmmaggmmoaaGreatDoorNT34
set_option linter.unusedVariables false
set_option linter.unusedSimpArgs false
set_option maxRecDepth 100000
set_option maxHeartbeats 16000000
open Go.Lib (hid)
namespace Go.Proofs.YtkcilmmaggmmoaaGreatDoor
namespace Nw
end Nw
namespace T13
end T13
end Go.Proofs.YtkcilmmaggmmoaaGreatDoor
namespace Go.Proofs.YtkcilmmaggmmoaaGreatDoor
section
open Go.RowKit Go.Sort
open Nw T13 Go.ChangeShapes Go.WideShapes
def RowT (w : World) (g : Nat) (t : TypeId) (a b c d : Value) : Prop := w.heap[g]? = some (.cells #[a, b, c, d] t (0, 0))
def put4 (w : World) (B : Nat) (a b c d : Value) : World := (((w.setCell ⟨B, 0, none⟩ a).setCell ⟨B, 1, none⟩ b).setCell ⟨B, 2, none⟩ c).setCell ⟨B, 3, none⟩ d
section
variable {w w' : World} {g B : Nat} {t : TypeId} {a b c d a' b' c' d' : Value}
theorem RowT.make (w : World) (t : TypeId) (a b c d : Value) : RowT (w.alloc (.cells #[a, b, c, d] t)) w.heap.size t a b c d := by
 show (w.heap.push _)[w.heap.size]? = _
 simp
theorem RowT.lt (h : RowT w g t a b c d) : g < w.heap.size := by
 rcases Nat.lt_or_ge g w.heap.size with hl | hl
 ·exact hl
 ·unfold RowT at h; rw [Array.getElem?_eq_none hl] at h; cases h
theorem RowT.alloc (h : RowT w g t a b c d) (o : Obj) : RowT (w.alloc o) g t a b c d := (Below.heap_alloc w o g h.lt).trans h
theorem RowT.cells (h : RowT w g t a b c d) : w.cell? ⟨g, 0, none⟩ = some a ∧ w.cell? ⟨g, 1, none⟩ = some b ∧ w.cell? ⟨g, 2, none⟩ = some c ∧ w.cell? ⟨g, 3, none⟩ = some d :=
 ⟨cell_of_row w g 0 _ t (0, 0) h, cell_of_row w g 1 _ t (0, 0) h, cell_of_row w g 2 _ t (0, 0) h, cell_of_row w g 3 _ t (0, 0) h⟩
theorem RowT.frozen (h : RowT w g t a b c d) : w.frozen? ⟨g, 0, none⟩ = false ∧ w.frozen? ⟨g, 1, none⟩ = false ∧ w.frozen? ⟨g, 2, none⟩ = false ∧ w.frozen? ⟨g, 3, none⟩ = false := by
 unfold RowT at h
 simp [World.frozen?, h]
theorem RowT.grown {r : Option Nat} (h : RowT w g t a b c d) (hb : w.grownBy w' r) (hr : r ≠ some g) : RowT w' g t a b c d := (hb.block g h.lt fun e => hr e.symm).trans h
theorem RowT.below (h : RowT w g t a b c d) (hb : Below w.heap.size w w') : RowT w' g t a b c d := (hb.block g h.lt).trans h
theorem RowT.set2 (h : RowT w g t a b c d) : RowT (w.setCell ⟨g, 2, none⟩ c') g t a b c' d := Lib.heap_setCell_same (i := 2) h _
theorem RowT.set3 (h : RowT w g t a b c d) : RowT (w.setCell ⟨g, 3, none⟩ d') g t a b c d' := Lib.heap_setCell_same (i := 3) h _
theorem put4_oth (w : World) (B : Nat) (a b c d : Value) (k : Nat) (hk : k ≠ B) : (put4 w B a b c d).heap[k]? = w.heap[k]? := by
 unfold put4
 rw [set_oth _ _ _ _ (by exact hk), set_oth _ _ _ _ (by exact hk), set_oth _ _ _ _ (by exact hk), set_oth _ _ _ _ (by exact hk)]
theorem put4_size (w : World) (B : Nat) (a b c d : Value) : (put4 w B a b c d).heap.size = w.heap.size := by
 unfold put4; simp [World.setCell]
end
theorem grown_new {w W : World} {r : Option Nat} (h : w.grownBy W r) {B : Nat} (hB : w.heap.size ≤ B) (i : Nat) (v : Value) : w.grownBy (W.setCell ⟨B, i, none⟩ v) r :=
 h.andThen (grown_set13 W B i v) fun j hj => .inl (by injection hj with hj; omega)
theorem grown_put4 {w W : World} {r : Option Nat} (h : w.grownBy W r) {B : Nat} (hB : w.heap.size ≤ B) (a b c d : Value) : w.grownBy (put4 W B a b c d) r :=
 grown_new (grown_new (grown_new (grown_new h hB 0 a) hB 1 b) hB 2 c) hB 3 d
def GivesRq (w : World) (g : Nat) (R : PR) (e : Ending) (w' : World) : Prop := ∃ q : ByteArray, RdB w' g q ∧ w.grownBy w' (some g) ∧ (match R with
 | .ok ps rest => ∃ v, e = .returned (.tuple #[v, .int .i64 0]) ∧ PtL (Since w w') w' v ps ∧ q.data.toList = rest
 | .err er => e = .returned (.tuple #[.slice none 0 0, .int .i64 er]))
def GivesO (w : World) (g : Nat) (R : RR) (e : Ending) (w' : World) : Prop := ∃ q : ByteArray, RdB w' g q ∧ w.grownBy w' (some g) ∧ (match R with
 | .good p r => ∃ c0 c1 c2 c3, e = .returned (.tuple #[.agg #[c0, c1, c2, c3], .int .i64 0]) ∧ PtC (Since w w') w' p c0 c1 c2 c3 ∧ q.data.toList = r
 | .bad er => e = .returned (.tuple #[.agg #[.string ⟨#[]⟩, .string ⟨#[]⟩, .int .i64 0, .slice none 0 0], .int .i64 er]))
theorem PtC.shape {S : Nat → Prop} {w : World} {p : Pt} {c0 c1 c2 c3 : Value} (h : PtC S w p c0 c1 c2 c3) : ∃ (N T : ByteArray) (o : Int) (A : Option Addr) (n cap : Nat), c0 = .string N ∧ c1 = .string T ∧ c2 = .int .i64 o ∧ c3 = .slice A n cap := by
 cases p with
 | mk n t o s =>
  rw [PtC] at h
  obtain ⟨h0, h1, h2, A, cap, h3, -⟩ := h
  exact ⟨_, _, _, _, _, _, h0, h1, h2, h3⟩
def PartsOf (n : Nat) : Prop := ∀ (s : ByteArray) (d g : Nat) (W : World), s.size < n → s.size ≤ 100000 → d ≤ 8 → RdB W g s → Ops8 W →
 Calls Tryz.prog 37 #[.pointer (some ⟨g, 0, none⟩), .int .i64 (d : Int)] W (GivesRq W g (prsA (d + 1) [] [] s.data.toList))
def RX (w W : World) (g : Nat) (u : ByteArray) (a b c d : Value) : Prop :=
 RowT W w.heap.size 73 a b c d ∧ RowT W (w.heap.size + 1) 73 (.string ⟨#[]⟩) (.string ⟨#[]⟩) (.int .i64 0) (.slice none 0 0) ∧ RdB W g u ∧ w.grownBy W (some g) ∧ Ops8 W
section
variable {w W W' : World} {g : Nat} {u u' : ByteArray} {a b c d c' d' : Value}
theorem RX.make (hR : RdB w g u) (hO : Ops8 w) (a b c d : Value) : RX w ((w.alloc (.cells #[a, b, c, d] 73)).alloc (.cells #[.string ⟨#[]⟩, .string ⟨#[]⟩, .int .i64 0, .slice none 0 0] 73)) g u a b c d := by
 have hb : Below w.heap.size w ((w.alloc (.cells #[a, b, c, d] 73)).alloc (.cells #[.string ⟨#[]⟩, .string ⟨#[]⟩, .int .i64 0, .slice none 0 0] 73)) := ((Below.refl _ _).alloc (Nat.le_refl _) _).alloc (by simp) _
 refine ⟨(RowT.make w _ a b c d).alloc _, ?_, hR.below hb, (World.grownBy_alloc _ _ _).trans (World.grownBy_alloc _ _ _), hO.keep hb⟩
 have := RowT.make (w.alloc (.cells #[a, b, c, d] 73)) 73 (.string ⟨#[]⟩) (.string ⟨#[]⟩) (.int .i64 0) (.slice none 0 0)
 rwa [show (w.alloc (.cells #[a, b, c, d] 73)).heap.size = w.heap.size + 1 by simp] at this
theorem RX.go (hg : g < w.heap.size) (h : RX w W g u a b c d) (hR : RdB W' g u') (hb : W.grownBy W' (some g)) : RX w W' g u' a b c d :=
 ⟨h.1.grown hb fun e => (by injection e with e; omega), h.2.1.grown hb fun e => (by injection e with e; omega), hR, h.2.2.2.1.trans hb, h.2.2.2.2.grown h.2.2.1 hb⟩
theorem RX.put (hg : g < w.heap.size) (h : RX w W g u a b c d) : RX w ((W.setCell ⟨w.heap.size, 2, none⟩ c').setCell ⟨w.heap.size, 3, none⟩ d') g u a b c' d' := by
 have hb : w.grownBy ((W.setCell ⟨w.heap.size, 2, none⟩ c').setCell ⟨w.heap.size, 3, none⟩ d') (some g) := grown_new (grown_new h.2.2.2.1 (Nat.le_refl _) _ _) (Nat.le_refl _) _ _
 have hw : W.grownBy ((W.setCell ⟨w.heap.size, 2, none⟩ c').setCell ⟨w.heap.size, 3, none⟩ d') (some w.heap.size) := (grown_set13 W _ 2 _).trans (grown_set13 _ _ 3 _)
 refine ⟨h.1.set2.set3, h.2.1.grown hw fun e => (by injection e with e; omega), h.2.2.1.other hw fun e => (by injection e with e; omega), hb, fun k hk => cell_grown (h.2.2.2.2 k hk) hw fun e => ?_⟩
 injection e with e
 have h1 := h.2.2.2.2 1 (by decide)
 have h0 := h.1
 have e : w.heap.size = 0 := e
 unfold RowT at h0
 have h7 := h.2.2.2.2 7 (by decide)
 rw [← e, cell_of_row _ _ 7 _ _ _ h0] at h7
 cases h7
theorem RX.size (h : RX w W g u a b c d) : w.heap.size + 2 ≤ W.heap.size := h.2.1.lt
end
theorem ptC_none (S : Nat → Prop) (w : World) (n : ByteArray) : PtC S w (.mk n.data.toList [] 1 []) (.string n) (.string ⟨#[]⟩) (.int .i64 1) (.slice none 0 0) := by
 rw [PtC]
 refine ⟨by rw [ba_of], rfl, rfl, none, 0, rfl, Nat.le_refl _, Nat.zero_le _, fun _ => rfl, ?_⟩
 rw [PtK]; trivial
theorem ptC_sub {S : Nat → Prop} {w : World} (n : ByteArray) (o : Int) {v : Value} {sub : List Pt} (h : PtL S w v sub) : PtC S w (.mk n.data.toList [] o sub) (.string n) (.string ⟨#[]⟩) (.int .i64 o) v := by
 rw [PtC]
 exact ⟨by rw [ba_of], rfl, rfl, h⟩
theorem readBraced_of (n : Nat) (H : PartsOf n) (d g : Nat) (w : World) (u N : ByteArray) (hu : u.size < n) (hs : u.size ≤ 100000) (hd : d ≤ 8) (hR : RdB w g u) (hO : Ops8 w) :
  Calls Tryz.prog 71 #[.pointer (some ⟨g, 0, none⟩), .agg #[.string N, .string ⟨#[]⟩, .int .i64 1, .slice none 0 0], .int .i64 (d : Int)] w (GivesO w g (brA d N.data.toList u.data.toList)) := by
 have hg := hR.lt
 have hX := RX.make hR hO (.string N) (.string ⟨#[]⟩) (.int .i64 1) (.slice none 0 0)
 obtain ⟨u1, hu1⟩ : ∃ u1 : ByteArray, u1.data.toList = u.data.toList.drop (opN u.data.toList).2 := ⟨ba _, ba_data _⟩
 have hTO := takeOp_any u1 hX.2.2.1 hX.2.2.2.2 hu1
 have HX0 := hid hX
 have HGL := hid hg
 obtain ⟨u2, hu2⟩ : ∃ u2 : ByteArray, u2.data.toList = u1.data.toList.drop 1 := ⟨ba _, ba_data _⟩
 by_cases ho : (opN u.data.toList).1 = 1
 ·obtain ⟨k1, k2⟩ := opK_none ho
  rw [k1] at hTO
  obtain rfl : u1 = u := bytes_ext (by rw [hu1, k2])
  have HTO := hid hTO
  have hpre := pre_one 125 u1.data.toList (by decide)
  by_cases hc : u1.data.toList.getD 0 0 = 125
  ·have HBR : Hid (brA d N.data.toList u1.data.toList = .good (.mk N.data.toList [] 1 []) (u1.data.toList.drop 1)) := hid (by unfold brA; rw [if_pos ho, if_pos hc])
   have HTK := hid (fun (W : World) (h : RdB W g u1) => take_any ⟨#[125]⟩ u2 true h (by show pre [125] _ = true; rw [hpre]; exact decide_eq_true hc) (by rw [if_pos rfl]; exact hu2))
   have HU2 := hid hu2
   clear hR hO hX hTO hpre hc ho k1 k2 hu1 hu2 hu hs hg H
   go_enter Tryz.func71, Tryz.ntmps71
   go_wp2_with first
    | (go_at_call 91; (with_reducible refine HTO.out.mono ?_); rintro e W1 ⟨rfl, r1, g1⟩; have HX1 := hid (HX0.out.go HGL.out r1 g1); clear r1 g1)
    | (go_at_call 68; refine (HTK.out _ HX1.out.2.2.1).mono ?_; rintro e W2 ⟨rfl, r2, g2⟩; have HX2 := hid (HX1.out.go HGL.out r2 g2); obtain ⟨x0, x1, x2, x3⟩ := HX2.out.1.cells; obtain ⟨z0, z1, z2, z3⟩ := HX2.out.2.1.cells; obtain ⟨f0, f1, f2, f3⟩ := HX2.out.2.1.frozen; clear r2 g2)
   refine bodyPost_ret (v := .tuple #[.agg #[.string N, .string ⟨#[]⟩, .int .i64 1, .slice none 0 0], .int .i64 0]) (by simp [results, Tryz.results71, go_sem, z0, z1, z2, z3]) rfl ?_
   rw [HBR.out]
   have hsz := HX2.out.size
   have hgl := HGL.out
   exact ⟨u2, (put4_oth W2 (w.heap.size + 1) _ _ _ _ g (by omega)).trans HX2.out.2.2.1, grown_put4 HX2.out.2.2.2.1 (by omega) _ _ _ _, _, _, _, _, rfl, ptC_none _ _ N, HU2.out⟩
  ·have HBR : Hid (brA d N.data.toList u1.data.toList = .bad 3) := hid (by unfold brA; rw [if_pos ho, if_neg hc])
   have HTK := hid (fun (W : World) (h : RdB W g u1) => take_any ⟨#[125]⟩ u1 false h (by show pre [125] _ = false; rw [hpre]; exact decide_eq_false hc) rfl)
   clear hR hO hX hTO hpre hc ho k1 k2 hu1 hu2 hu hs hg H
   go_enter Tryz.func71, Tryz.ntmps71
   go_wp2_with first
    | (go_at_call 91; (with_reducible refine HTO.out.mono ?_); rintro e W1 ⟨rfl, r1, g1⟩; have HX1 := hid (HX0.out.go HGL.out r1 g1); clear r1 g1)
    | (go_at_call 68; refine (HTK.out _ HX1.out.2.2.1).mono ?_; rintro e W2 ⟨rfl, r2, g2⟩; have HX2 := hid (HX1.out.go HGL.out r2 g2); obtain ⟨z0, z1, z2, z3⟩ := HX2.out.2.1.cells; obtain ⟨f0, f1, f2, f3⟩ := HX2.out.2.1.frozen; clear r2 g2)
   refine bodyPost_ret (v := .tuple #[.agg #[.string ⟨#[]⟩, .string ⟨#[]⟩, .int .i64 0, .slice none 0 0], .int .i64 3]) (by simp [results, Tryz.results71, go_sem, z0, z1, z2, z3]) rfl ?_
   rw [HBR.out]
   have hsz := HX2.out.size
   have hgl := HGL.out
   exact ⟨u1, (put4_oth W2 (w.heap.size + 1) _ _ _ _ g (by omega)).trans HX2.out.2.2.1, grown_put4 HX2.out.2.2.2.1 (by omega) _ _ _ _, rfl⟩
 ·obtain ⟨o, ho2, ho7, hoe⟩ : ∃ o : Nat, 2 ≤ o ∧ o ≤ 7 ∧ (opN u.data.toList).1 = (o : Int) := by
   rcases opN_cases u.data.toList with h | ⟨h1, h2, -⟩
   ·exact absurd h.1 ho
   ·exact ⟨(opN u.data.toList).1.toNat, by omega, by omega, by omega⟩
  obtain ⟨k1, k2⟩ := opK_some hoe ho2
  rw [k1] at hTO
  have HTO := hid hTO
  have hone : ((o : Int) != 0) = true := bne_iff_ne.2 (by omega)
  have hsu : u1.size ≤ u.size := by rw [← len13 u1, hu1, List.length_drop, len13]; omega
  have HP := hid (fun (W : World) (hr : RdB W g u1) (ho : Ops8 W) => H u1 d g W (by omega) (by omega) hd hr ho)
  have HBA : Hid (brA d N.data.toList u.data.toList = match prsA (d + 1) [] [] u1.data.toList with
    | .err e => .bad e
    | .ok sub rest => if rest.getD 0 0 = 125 then .good (.mk N.data.toList [] (o : Int) sub) (rest.drop 1) else .bad 3) := hid (by
   unfold brA
   rw [if_neg ho, ← hu1, hoe]
   cases prsA (d + 1) [] [] u1.data.toList <;> rfl)
  cases hpr : prsA (d + 1) [] [] u1.data.toList with
  | err er =>
   have hne : (er != 0) = true := bne_iff_ne.2 (by rcases prsA_err hpr with e | e <;> rw [e] <;> decide)
   rw [hpr] at HP HBA
   clear hR hO hX hTO ho k1 k2 hu1 hu2 hu hs hg H hoe hpr hsu
   go_enter Tryz.func71, Tryz.ntmps71
   go_wp2_with first
    | (go_at_call 91; (with_reducible refine HTO.out.mono ?_); rintro e W1 ⟨rfl, r1, g1⟩; have HX1 := hid (HX0.out.go HGL.out r1 g1); clear r1 g1)
    | (go_at_call 37; refine (HP.out _ HX1.out.2.2.1 HX1.out.2.2.2.2).mono ?_; rintro e W2 ⟨q, r2, g2, rfl⟩; have HX2 := hid (HX1.out.go HGL.out r2 g2); obtain ⟨z0, z1, z2, z3⟩ := HX2.out.2.1.cells; obtain ⟨f0, f1, f2, f3⟩ := HX2.out.2.1.frozen; clear r2 g2)
   refine bodyPost_ret (v := .tuple #[.agg #[.string ⟨#[]⟩, .string ⟨#[]⟩, .int .i64 0, .slice none 0 0], .int .i64 er]) (by simp [results, Tryz.results71, go_sem, z0, z1, z2, z3]) rfl ?_
   rw [HBA.out]
   have hsz := HX2.out.size
   have hgl := HGL.out
   exact ⟨q, (put4_oth W2 (w.heap.size + 1) _ _ _ _ g (by omega)).trans HX2.out.2.2.1, grown_put4 HX2.out.2.2.2.1 (by omega) _ _ _ _, rfl⟩
  | ok sub rest =>
   rw [hpr] at HP HBA
   have HBA : Hid (brA d N.data.toList u.data.toList = if rest.getD 0 0 = 125 then .good (.mk N.data.toList [] (o : Int) sub) (rest.drop 1) else .bad 3) := HBA
   have hpre := pre_one 125 rest (by decide)
   by_cases hc : rest.getD 0 0 = 125
   ·rw [if_pos hc] at HBA
    obtain ⟨q2, hq2⟩ : ∃ q2 : ByteArray, q2.data.toList = rest.drop 1 := ⟨ba _, ba_data _⟩
    have HTK := hid (fun (W : World) (q : ByteArray) (hq : q.data.toList = rest) (h : RdB W g q) => take_any ⟨#[125]⟩ q2 true h (by show pre [125] _ = true; rw [hq, hpre]; exact decide_eq_true hc) (by rw [if_pos rfl, hq]; exact hq2))
    have HQ2 := hid hq2
    clear hR hO hX hTO ho k1 k2 hu1 hu2 hu hs hg H hoe hpr hsu hpre hc hq2
    go_enter Tryz.func71, Tryz.ntmps71
    go_wp2_with first
     | (go_at_call 91; (with_reducible refine HTO.out.mono ?_); rintro e W1 ⟨rfl, r1, g1⟩; have HX1 := hid (HX0.out.go HGL.out r1 g1); clear r1 g1)
     | (go_at_call 37; refine (HP.out _ HX1.out.2.2.1 HX1.out.2.2.2.2).mono ?_; rintro e W2 ⟨q, r2, g2, v, rfl, hv, hqr⟩; have HX2 := hid (HX1.out.go HGL.out r2 g2); obtain ⟨x0, x1, x2, x3⟩ := HX2.out.1.cells; obtain ⟨y0, y1, y2, y3⟩ := HX2.out.1.frozen; have hv2 := hv; obtain ⟨A, cap, hve, -⟩ := hv2; subst hve; have HV := hid hv; have HQR := hid hqr; have HX3 := hid (HX2.out.put HGL.out (c' := .int .i64 (o : Int)) (d' := .slice A sub.length cap)); have HS12 : Hid (W1.heap.size ≤ W2.heap.size) := hid g2.size; clear r2 g2 hv hqr)
     | (go_at_call 68; refine (HTK.out _ _ HQR.out HX3.out.2.2.1).mono ?_; rintro e W3 ⟨rfl, r3, g3⟩; have HX4 := hid (HX3.out.go HGL.out r3 g3); have HG3 := hid g3; obtain ⟨m0, m1, m2, m3⟩ := HX4.out.1.cells; obtain ⟨z0, z1, z2, z3⟩ := HX4.out.2.1.cells; obtain ⟨f0, f1, f2, f3⟩ := HX4.out.2.1.frozen; clear r3 g3)
    refine bodyPost_ret (v := .tuple #[.agg #[.string N, .string ⟨#[]⟩, .int .i64 (o : Int), .slice A sub.length cap], .int .i64 0]) (by simp [results, Tryz.results71, go_sem, z0, z1, z2, z3]) rfl ?_
    rw [HBA.out]
    have hsz := HX4.out.size
    have hgl := HGL.out
    have hs1 := HX1.out.size
    have hs12 := HS12.out
    have hs3 : W2.heap.size ≤ W3.heap.size := by have := HG3.out.size; simpa [World.setCell] using this
    refine ⟨q2, (put4_oth W3 (w.heap.size + 1) _ _ _ _ g (by omega)).trans HX4.out.2.2.1, grown_put4 HX4.out.2.2.2.1 (by omega) _ _ _ _, _, _, _, _, rfl, ptC_sub N (o : Int) (PtL.keep HV.out fun b hb => ⟨⟨by have := hb.1; omega, by show b < (put4 _ _ _ _ _ _).heap.size; rw [put4_size]; have := hb.2; omega⟩, ?_⟩), HQ2.out⟩
    have hb1 := hb.1
    have hb2 := hb.2
    refine (put4_oth W3 (w.heap.size + 1) _ _ _ _ b (by omega)).trans ((HG3.out.block b (by simp [World.setCell]; omega) fun e => by injection e with e; omega).trans ?_)
    rw [set_oth _ _ _ _ (by show b ≠ w.heap.size; omega), set_oth _ _ _ _ (by show b ≠ w.heap.size; omega)]
   ·rw [if_neg hc] at HBA
    have HTK := hid (fun (W : World) (q : ByteArray) (hq : q.data.toList = rest) (h : RdB W g q) => take_any ⟨#[125]⟩ q false h (by show pre [125] _ = false; rw [hq, hpre]; exact decide_eq_false hc) rfl)
    clear hR hO hX hTO ho k1 k2 hu1 hu2 hu hs hg H hoe hpr hsu hpre hc
    go_enter Tryz.func71, Tryz.ntmps71
    go_wp2_with first
     | (go_at_call 91; (with_reducible refine HTO.out.mono ?_); rintro e W1 ⟨rfl, r1, g1⟩; have HX1 := hid (HX0.out.go HGL.out r1 g1); clear r1 g1)
     | (go_at_call 37; refine (HP.out _ HX1.out.2.2.1 HX1.out.2.2.2.2).mono ?_; rintro e W2 ⟨q, r2, g2, v, rfl, hv, hqr⟩; have HX2 := hid (HX1.out.go HGL.out r2 g2); obtain ⟨x0, x1, x2, x3⟩ := HX2.out.1.cells; obtain ⟨y0, y1, y2, y3⟩ := HX2.out.1.frozen; obtain ⟨A, cap, hve, -⟩ := hv; subst hve; have HQR := hid hqr; have HX3 := hid (HX2.out.put HGL.out (c' := .int .i64 (o : Int)) (d' := .slice A sub.length cap)); clear r2 g2 hqr)
     | (go_at_call 68; refine (HTK.out _ _ HQR.out HX3.out.2.2.1).mono ?_; rintro e W3 ⟨rfl, r3, g3⟩; have HX4 := hid (HX3.out.go HGL.out r3 g3); obtain ⟨z0, z1, z2, z3⟩ := HX4.out.2.1.cells; obtain ⟨f0, f1, f2, f3⟩ := HX4.out.2.1.frozen; clear r3 g3)
    refine bodyPost_ret (v := .tuple #[.agg #[.string ⟨#[]⟩, .string ⟨#[]⟩, .int .i64 0, .slice none 0 0], .int .i64 3]) (by simp [results, Tryz.results71, go_sem, z0, z1, z2, z3]) rfl ?_
    rw [HBA.out]
    have hsz := HX4.out.size
    have hgl := HGL.out
    exact ⟨q, (put4_oth W3 (w.heap.size + 1) _ _ _ _ g (by omega)).trans HX4.out.2.2.1, grown_put4 HX4.out.2.2.2.1 (by omega) _ _ _ _, rfl⟩
end
end Go.Proofs.YtkcilmmaggmmoaaGreatDoor
