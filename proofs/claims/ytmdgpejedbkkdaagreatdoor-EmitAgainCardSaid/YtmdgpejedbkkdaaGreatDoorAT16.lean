/- QuoDouble, RefNod1, RefNod2, RefEmi1, RefEmi2, RefEmi3, RefNod3, RefFlo1, NodMeas -/
import Derived.Below
import Derived.Deep.LoopGhost
import Derived.IntWalk
import Derived.ProofKit
import Derived.StillTailTactics
import Derived.Test.YtmdgpejedbkkdaaGreatDoorAT12
import Derived.Test.YtmdgpejedbkkdaaGreatDoorAT13
import Derived.Test.YtmdgpejedbkkdaaGreatDoorAT14
import Derived.Test.YtmdgpejedbkkdaaGreatDoorAT15
import Derived.Test.YtmdgpejedbkkdaaGreatDoorAT5
import Derived.Test.YtmdgpejedbkkdaaGreatDoorAT7
import Derived.Test.YtmdgpejedbkkdaaGreatDoorAT8
import Derived.Test.YtmdgpejedbkkdaaGreatDoorAT9
import Derived.WalkKit
set_option linter.unusedVariables false
set_option linter.unusedSimpArgs false
set_option maxRecDepth 100000
set_option maxHeartbeats 16000000
open Go.Lib (hid)
namespace Go.Proofs.YtmdgpejedbkkdaaGreatDoor
section
open Go.RowKit Go.Sort
open Q6
theorem esc_len (c : UInt8) : (esc c).length ≤ 4 := by
 unfold esc
 split
 ·show 2 ≤ 4; decide
 ·split
  ·show 2 ≤ 4; decide
  ·split
   ·show 2 ≤ 4; decide
   ·split
    ·show 1 ≤ 4; decide
    ·exact Nat.le_refl _
theorem escL_len (l : List UInt8) : (escL l).length ≤ 4 * l.length := by
 induction l with
 | nil => exact Nat.le_refl _
 | cons c l ih => rw [escL_cons, List.length_append, List.length_cons]; have := esc_len c; omega
theorem escL_app (l : List UInt8) (c : UInt8) : escL (l ++ [c]) = escL l ++ esc c := by
 induction l with
 | nil => show escL (c :: []) = _; rw [escL_cons]; show esc c ++ [] = [] ++ esc c; simp
 | cons b l ih => rw [List.cons_append, escL_cons, escL_cons, ih, List.append_assoc]
theorem take_snoc {l : List UInt8} {k : Nat} (h : k < l.length) : l.take (k + 1) = l.take k ++ [l.getD k 0] := by
 rw [List.take_succ_eq_append_getElem h, List.getD_eq_getElem?_getD, List.getElem?_eq_getElem h]; rfl
def accL (l : List UInt8) (k : Nat) : List UInt8 := 34 :: escL (l.take k)
theorem accL_snoc {l : List UInt8} {k : Nat} (h : k < l.length) : accL l (k + 1) = accL l k ++ esc (l.getD k 0) := by
 unfold accL; rw [take_snoc h, escL_app]; rfl
theorem accL_len (l : List UInt8) (k : Nat) : (accL l k).length ≤ 4 * l.length + 1 := by
 unfold accL
 rw [List.length_cons]
 have h1 := escL_len (l.take k)
 have h2 : (l.take k).length ≤ l.length := by rw [List.length_take]; exact Nat.min_le_right ..
 omega
theorem accL_end {l : List UInt8} {k : Nat} (h : l.length ≤ k) : accL l k ++ [34] = dblL l := by
 unfold accL dblL; rw [List.take_of_length_le h]
theorem Double_any (s : ByteArray) (w : World) (hs : s.size ≤ 1000000) (D : ByteArray) (hD : dblL s.data.toList = D.data.toList) :
  Calls Tryz.prog 26 #[.string s] w fun e w' => e = .returned (.string D) ∧ Below w.heap.size w w' := by
 obtain ⟨i0, hi, hz0, hz1, hz2⟩ := infoB
 have HD := hid hD
 clear hD
 obtain ⟨n, hn⟩ : ∃ n, s.size = n := ⟨_, rfl⟩
 have hlen : s.data.toList.length = n := by rw [← hn]; rfl
 have HLEN := hid hlen
 obtain ⟨w1, hmk, hown1, hgr1⟩ := run_make_own (P := Tryz.prog) w w.heap.size 40 5 i0 _ 1 Tryz.underlying40 hi hz0 hz1 .i64 .i64 (n + 2) (by rw [hz2]; omega) (by unfold maxLen; omega) (Nat.le_refl _)
 have hb1 : Below w.heap.size w w1 := (Below.refl _ _).grown hgr1 (Nat.le_refl _) (by intro p hp; cases hp)
 have HO1 := hid hown1
 have HB1 := hid hb1
 have h2n : ((n + 2 : Nat) : Int) = (n : Int) + 2 := by omega
 rw [h2n] at hmk
 clear hgr1 hb1 h2n hlen
 have hw2 : IntKind.i64.wrap ((n : Int) + 2) = (n : Int) + 2 := IntWalk.i64_in _ (by omega)
 have hsn : n ≤ 1000000 := by omega
 have hsz1 := HB1.out.size
 go_enter Tryz.func26, Tryz.ntmps26
 go_wp2_with (at_builtin; refine wpList_append_own _ rfl _ _ 40 rfl w.heap.size 5 i0 _ 1 1 Tryz.underlying40 hi hz0 hz1 hz2 rfl (by decide) _ _ _ rfl (hown1.alloc _) ⟨w1.heap.size, 0, none⟩ 1 1 [.int .u8 34] rfl rfl ?c1 ?c2 ?c3 ?c4 ?c5 ?_)
 case c1 => exact cells_new w1 _ _
 case c2 => exact one_one _
 case c3 => unfold maxLen; omega
 case c4 => omega
 case c5 => simp; omega
 intro v1 w2 hown2 hgrow2 hnil2
 have HO2 := hid hown2
 have HB2 : Hid (Below w.heap.size w w2) := hid ((HB1.out.alloc HB1.out.size _).grown hgrow2 (by simp; omega) (by intro q hq; exact (HO1.out.lt q hq).1))
 have HN2 : Hid (v1 ≠ .slice none 0 0) := hid (fun e => by first | exact hnil2 e | exact absurd (hnil2.1 e).2 (by decide))
 clear hown1 hown2 hgrow2 hnil2 hmk HO1 HB1 hsz1
 go_wp2
 go_loopw [3, 14] (fun sv si wr => ∃ k : Nat, k ≤ n ∧ si = .int .i64 (k : Int) ∧ wr.ownsRow w.heap.size 5 1 sv (accL s.data.toList k).length ((accL s.data.toList k).map encB) ∧ Below w.heap.size w wr ∧ sv ≠ .slice none 0 0) (fun _ si _ => n - (intOf si).toNat)
 case atStart => exact ⟨0, Nat.zero_le _, rfl, HO2.out, HB2.out, HN2.out⟩
 case round =>
  clear HO2 HB2 HN2
  obtain ⟨k, hk, rfl, hown, hbel, hnn⟩ := hrel
  have HNN := hid hnn
  have HB := hid hbel
  clear hbel hnn
  have hal := accL_len s.data.toList k
  rw [HLEN.out] at hal
  by_cases hlt : k < n
  ·have hks : k < s.size := by omega
   have hkl : k < s.data.toList.length := by rw [HLEN.out]; exact hlt
   have HX := hid (accL_snoc hkl)
   obtain ⟨c, hc⟩ : ∃ c, s[k]'hks = c := ⟨_, rfl⟩
   rw [getd s k hks, hc] at HX
   have hskz : (k : Int) < (n : Int) := by omega
   obtain ⟨u7, hu7⟩ : ∃ u, u = wr := ⟨_, rfl⟩
   have HC : Hid (∀ v, wr.ownsRow w.heap.size 5 1 v (accL s.data.toList k).length ((accL s.data.toList k).map encB) → Calls Tryz.prog 45 #[v, .int .u8 c.toNat] wr fun e w' => ∃ v', e = .returned v' ∧ w'.ownsRow w.heap.size 5 1 v' (accL s.data.toList (k + 1)).length ((accL s.data.toList (k + 1)).map encB) ∧ Below w.heap.size wr w' ∧ v' ≠ .slice none 0 0) := hid (fun v hv => by
    rw [HX.out]
    exact appesc_any v _ _ c w.heap.size wr hv HB.out.size (by omega))
   have HO := hid hown
   clear hkl hown hal hu7
   go_wp2_with (go_at_call 45; refine (HC.out _ HO.out).mono ?_; rintro e w3 ⟨v3, rfl, ho3, hb3, hn3⟩; have HO3 := hid ho3; have HB3 := hid hb3; have HN3 := hid hn3; clear ho3 hb3 hn3)
   go_roundw
   case measure => simp [intOf]; omega
   case rel => exact ⟨k + 1, by omega, by go_num, HO3.out, HB.out.trans HB3.out, HN3.out⟩
  ·obtain rfl : k = n := by omega
   have HE := hid (accL_end (l := s.data.toList) (k := k) (by rw [HLEN.out]; exact Nat.le_refl _))
   have HO := hid hown
   obtain ⟨YS, hYS⟩ : ∃ YS, YS = (accL s.data.toList k).map encB := ⟨_, rfl⟩
   rw [← hYS] at hown
   have HYS := hid hYS
   obtain ⟨al, hal2⟩ : ∃ al, (accL s.data.toList k).length = al := ⟨_, rfl⟩
   rw [hal2] at hown hal
   have HAL := hid hal2
   clear hYS hal2
   have hHb := HB.out.size
   go_wp2_with (at_builtin; refine wpList_append_own _ rfl _ _ 40 rfl w.heap.size 5 i0 _ 1 1 Tryz.underlying40 hi hz0 hz1 hz2 rfl (by decide) _ _ _ rfl (hown.alloc _) ⟨wr.heap.size, 0, none⟩ 1 1 [.int .u8 34] rfl rfl ?c1 ?c2 ?c3 ?c4 ?c5 ?_)
   case c1 => exact cells_new wr _ _
   case c2 => exact one_one _
   case c3 => unfold maxLen; omega
   case c4 => omega
   case c5 => simp; omega
   intro v4 w4 hown4 hgrow4 hnil4
   have HB4 : Hid (Below w.heap.size w w4) := hid ((HB.out.alloc HB.out.size _).grown hgrow4 (by simp; omega) (by intro q hq; exact (HO.out.lt q hq).1))
   have hown5 : w4.ownsRow w.heap.size 5 1 v4 (al + 1) ((dblL s.data.toList).map encB) := by
    rw [← HE.out, map_snoc, ← HYS.out]; exact hown4
   obtain ⟨g, cap, hv, hcv⟩ := own_conv hown5 (fun e => by first | exact hnil4 e | exact absurd (hnil4.1 e).2 (by decide))
   subst hv
   have hDD : (⟨(dblL s.data.toList).toArray⟩ : ByteArray) = D := mk_of HD.out
   rw [hDD] at hcv
   clear hown hown4 hown5 hgrow4 hnil4 hDD hal
   go_wp2
   go_ret
   exact ⟨rfl, HB4.out⟩
end
section
open Go.RowKit Go.Sort
open Nw N8
def Row4 (w : World) (g : Nat) (t : TypeId) (a b c d : Value) : Prop := w.heap[g]? = some (.cells #[a, b, c, d] t (0, 0))
section
variable {w w' : World} {g B : Nat} {t : TypeId} {a b c d : Value}
theorem Row4.make (w : World) (t : TypeId) (a b c d : Value) : Row4 (w.alloc (.cells #[a, b, c, d] t)) w.heap.size t a b c d := by
 show (w.heap.push _)[w.heap.size]? = _
 simp
theorem Row4.below (h : Row4 w g t a b c d) (hb : Below B w w') (hg : g < B) : Row4 w' g t a b c d := (hb.block g hg).trans h
theorem Row4.lt (h : Row4 w g t a b c d) : g < w.heap.size := by
 rcases Nat.lt_or_ge g w.heap.size with hl | hl
 ·exact hl
 ·unfold Row4 at h; rw [Array.getElem?_eq_none hl] at h; cases h
theorem Row4.alloc (h : Row4 w g t a b c d) (o : Obj) : Row4 (w.alloc o) g t a b c d := (Below.heap_alloc w o g h.lt).trans h
theorem Row4.cells (h : Row4 w g t a b c d) : w.cell? ⟨g, 0, none⟩ = some a ∧ w.cell? ⟨g, 1, none⟩ = some b ∧ w.cell? ⟨g, 2, none⟩ = some c ∧ w.cell? ⟨g, 3, none⟩ = some d :=
 ⟨cell_of_row w g 0 _ t (0, 0) h, cell_of_row w g 1 _ t (0, 0) h, cell_of_row w g 2 _ t (0, 0) h, cell_of_row w g 3 _ t (0, 0) h⟩
theorem Row4.frozen (h : Row4 w g t a b c d) : w.frozen? ⟨g, 0, none⟩ = false ∧ w.frozen? ⟨g, 1, none⟩ = false ∧ w.frozen? ⟨g, 2, none⟩ = false ∧ w.frozen? ⟨g, 3, none⟩ = false := by
 unfold Row4 at h
 simp [World.frozen?, h]
end
theorem belowNext {w w1 w2 : World} (h : Below w.heap.size w w1) (g : Below w1.heap.size w1 w2) : Below w.heap.size w w2 := h.trans (g.mono h.size)
theorem NdW.kid {w : World} {k : Int} {t : L8} {ks : List L8} {ds : List Nd} {c0 c1 c2 : Value} {A : Option Addr} {n cap : Nat} (h : NdW w (.mk k t ks ds) c0 c1 c2 (.slice A n cap)) (j : Nat) (hj : j < ds.length) :
  ∃ (b o : Nat) (e0 e1 e2 e3 : Value), A = some ⟨b, o, none⟩ ∧ b < w.heap.size ∧ w.cell? ⟨b, o + j * 4, none⟩ = some e0 ∧ w.cell? ⟨b, o + j * 4 + 1, none⟩ = some e1 ∧
    w.cell? ⟨b, o + j * 4 + 2, none⟩ = some e2 ∧ w.cell? ⟨b, o + j * 4 + 3, none⟩ = some e3 ∧ NdW w (ds[j]'hj) e0 e1 e2 e3 := by
 obtain ⟨_, _, _, A', cap', hA', _, _, _, hkid⟩ := h.parts
 have hAe : A = A' := by injection hA'
 subst hAe
 exact hkid j hj
def Boxed (w0 w : World) (d : Nd) (c0 c1 c2 c3 : Value) : Prop := Below w0.heap.size w0 w ∧ Row4 w w0.heap.size 25 c0 c1 c2 c3 ∧ NdW w d c0 c1 c2 c3
theorem Boxed.make {w : World} {d : Nd} {c0 c1 c2 c3 : Value} (h : NdW w d c0 c1 c2 c3) : Boxed w (w.alloc (.cells #[c0, c1, c2, c3] 25)) d c0 c1 c2 c3 :=
 ⟨(Below.refl _ _).alloc (Nat.le_refl _) _, Row4.make w _ _ _ _ _, h.below ((Below.refl _ _).alloc (Nat.le_refl _) _)⟩
theorem Boxed.go {w0 w w' : World} {d : Nd} {c0 c1 c2 c3 : Value} (h : Boxed w0 w d c0 c1 c2 c3) (hb : Below w.heap.size w w') : Boxed w0 w' d c0 c1 c2 c3 :=
 ⟨belowNext h.1 hb, h.2.1.below hb h.2.1.lt, h.2.2.below hb⟩
end
section
open Go.RowKit Go.Sort
open Nw N8
theorem rd_slice {w : World} {v : Value} {l : List L8} (h : Rd w v l) : ∃ (a : Option Addr) (cap : Nat), v = .slice a l.length cap ∧ l.length ≤ cap ∧ cap ≤ maxLen := by
 obtain ⟨a, cap, hv, h1, h2, _⟩ := h
 exact ⟨a, cap, hv, h1, h2⟩
theorem Boxed.keys {w0 w : World} {k : Int} {t : L8} {ks : List L8} {ds : List Nd} {c0 c1 c2 c3 : Value} (h : Boxed w0 w (.mk k t ks ds) c0 c1 c2 c3) : Rd w c2 ks := h.2.2.parts.2.2.1
end
section
open Go.RowKit Go.Sort
open Nw N8 Q6 F9 B10 E11
theorem str_of {a b : ByteArray} (h : a.data.toList = b.data.toList) : Ending.returned (.string a) = .returned (.string b) := by
 rw [show a = b by rw [← ba_of a, ← ba_of b, h]]
theorem noq_step {l : L8} {k : Nat} (hk : k < l.length) : noq (l.take (k + 1)) = (noq (l.take k) && !isQ (l.getD k 0)) := by
 unfold noq
 rw [List.take_add_one, List.all_append, List.getElem?_eq_getElem hk]
 simp [List.getD_eq_getElem?_getD, List.getElem?_eq_getElem hk]
end
section
open Go.RowKit Go.Sort
open Nw N8 Q6 F9 B10 E11
theorem bool_of {b c : Bool} (h : b = c) : Ending.returned (.bool c) = .returned (.bool b) := by rw [h]
end
section
open Go.RowKit Go.Sort
open Nw N8 Q6 F9 B10 E11
theorem app_list (x y : ByteArray) : (x ++ y).data.toList = x.data.toList ++ y.data.toList := by rw [ByteArray.data_append, Array.toList_append]
theorem depL_in {d : Nd} : ∀ {ds : List Nd}, d ∈ ds → depT d ≤ depL ds
 | e :: ds, h => by
  rw [depL]
  rcases List.mem_cons.1 h with rfl | h
  ·omega
  ·have := depL_in h; omega
theorem cntL_in {d : Nd} : ∀ {ds : List Nd}, d ∈ ds → cntT d ≤ cntL ds
 | e :: ds, h => by
  rw [cntL]
  rcases List.mem_cons.1 h with rfl | h
  ·omega
  ·have := cntL_in h; omega
theorem nd_shape {w : World} {d : Nd} {c0 c1 c2 c3 : Value} (h : NdW w d c0 c1 c2 c3) :
  ∃ (k : Int) (s : ByteArray) (a : Option Addr) (n c : Nat) (A : Option Addr) (m q : Nat), c0 = .int .i64 k ∧ c1 = .string s ∧ c2 = .slice a n c ∧ c3 = .slice A m q := by
 obtain ⟨k, t, ks, ds⟩ := d
 obtain ⟨rfl, rfl, hk, A, cap, rfl, _⟩ := h.parts
 obtain ⟨a, q, rfl, _⟩ := rd_slice hk
 exact ⟨_, _, _, _, _, _, _, _, rfl, rfl, rfl, rfl⟩
theorem text_all {M : Nat} {d : Nd} (h : allT M d) : d.text.length ≤ M := by
 obtain ⟨k, t, ks, ds⟩ := d
 rw [allT] at h
 exact h.1
end
section
open Go.RowKit Go.Sort
open Nw N8
theorem region_tail {P : Program} {id : Nat} {Q : Exit → Act → World → Prop} {a : Act} {w : World} {l : List Oper} (n : Nat) (hm : P.follows .mixedOrders = true) (hB : Region.lexTailB .any l.toArray n = true)
  (h : ∀ w9 : World, w9 = w.drew → wpStill P l.toArray w9 (fun a' => wpList P l.toArray Q (l.drop n) a' w9) (l.take n) a) : (Code.region id l.toArray true).wp P Q a w :=
 wp_region_still_tail n hm hB (h w.drew rfl)
def Boxed2 (w0 w : World) (d e : Nd) (c0 c1 c2 c3 u0 u1 u2 u3 : Value) : Prop :=
 Below w0.heap.size w0 w ∧ Row4 w w0.heap.size 25 c0 c1 c2 c3 ∧ Row4 w (w0.heap.size + 1) 25 u0 u1 u2 u3 ∧ NdW w d c0 c1 c2 c3 ∧ NdW w e u0 u1 u2 u3
theorem Boxed2.make {w : World} {d e : Nd} {c0 c1 c2 c3 u0 u1 u2 u3 : Value} (h : NdW w d c0 c1 c2 c3) (g : NdW w e u0 u1 u2 u3) :
  Boxed2 w ((w.alloc (.cells #[c0, c1, c2, c3] 25)).alloc (.cells #[u0, u1, u2, u3] 25)) d e c0 c1 c2 c3 u0 u1 u2 u3 := by
 have hb1 : Below w.heap.size w (w.alloc (.cells #[c0, c1, c2, c3] 25)) := (Below.refl _ _).alloc (Nat.le_refl _) _
 have hb : Below w.heap.size w ((w.alloc (.cells #[c0, c1, c2, c3] 25)).alloc (.cells #[u0, u1, u2, u3] 25)) := hb1.alloc hb1.size _
 refine ⟨hb, (Row4.make w _ _ _ _ _).alloc _, ?_, h.below hb, g.below hb⟩
 have := Row4.make (w.alloc (.cells #[c0, c1, c2, c3] 25)) 25 u0 u1 u2 u3
 rw [show (w.alloc (.cells #[c0, c1, c2, c3] 25)).heap.size = w.heap.size + 1 by simp] at this
 exact this
theorem Boxed2.go {w0 w w' : World} {d e : Nd} {c0 c1 c2 c3 u0 u1 u2 u3 : Value} (h : Boxed2 w0 w d e c0 c1 c2 c3 u0 u1 u2 u3) (hb : Below w.heap.size w w') : Boxed2 w0 w' d e c0 c1 c2 c3 u0 u1 u2 u3 :=
 ⟨belowNext h.1 hb, h.2.1.below hb h.2.1.lt, h.2.2.1.below hb h.2.2.1.lt, h.2.2.2.1.below hb, h.2.2.2.2.below hb⟩
theorem below_drew (w : World) : Below w.heap.size w w.drew := ⟨rfl, rfl, rfl, Nat.le_refl _, fun _ _ => rfl⟩
theorem sameL_ne {ds es : List Nd} (h : ds.length ≠ es.length) : sameL ds es = false := Bool.eq_false_iff.2 fun e => h (sameL_len e)
theorem sameL_no : ∀ {ds es : List Nd} {j : Nat} (h : j < ds.length) (g : j < es.length), sameT (ds[j]'h) (es[j]'g) = false → sameL ds es = false
 | d :: ds, e :: es, 0, _, _, hs => by
  have hs' : sameT d e = false := hs
  rw [sameL, hs']; rfl
 | d :: ds, e :: es, j + 1, h, g, hs => by
  have hs' : sameT (ds[j]'(Nat.lt_of_succ_lt_succ h)) (es[j]'(Nat.lt_of_succ_lt_succ g)) = false := hs
  rw [sameL, sameL_no _ _ hs', Bool.and_false]
theorem sameL_all : ∀ {ds es : List Nd}, ds.length = es.length → (∀ (j : Nat) (h : j < ds.length) (g : j < es.length), sameT (ds[j]'h) (es[j]'g) = true) → sameL ds es = true
 | [], [], _, _ => rfl
 | d :: ds, e :: es, hl, h => by
  have h0 : sameT d e = true := h 0 (Nat.succ_pos _) (Nat.succ_pos _)
  rw [sameL, h0, sameL_all (Nat.succ.inj hl) fun j hj gj => h (j + 1) (Nat.succ_lt_succ hj) (Nat.succ_lt_succ gj)]; rfl
 | [], _ :: _, hl, _ => by cases hl
 | _ :: _, [], hl, _ => by cases hl
theorem RSame_q (v u : Value) (l m : List L8) (w : World) (h : Rd w v l) (k : Rd w u m) (b : Bool) (hb : decide (l = m) = b) :
  Calls Tryz.prog 32 #[v, u] w fun e w' => e = .returned (.bool b) ∧ Below w.heap.size w w' := by
 subst hb; exact RSame_any v u l m w h k
theorem toList_beq {x y : L8} (h : x ≠ y) : ((ba x).toList == (ba y).toList) = false := by rw [ba_list, ba_list]; exact beq_eq_false_iff_ne.2 h
theorem toList_bne {x y : L8} (h : x ≠ y) : ((ba x).toList != (ba y).toList) = true := by rw [ba_list, ba_list]; exact bne_iff_ne.2 h
theorem RSameT_any (N : Nat) : ∀ (d e : Nd), cntT d ≤ N → ∀ (r : Bool), sameT d e = r → ∀ (c0 c1 c2 c3 u0 u1 u2 u3 : Value) (w : World), NdW w d c0 c1 c2 c3 → NdW w e u0 u1 u2 u3 →
  Calls Tryz.prog 14 #[.agg #[c0, c1, c2, c3], .agg #[u0, u1, u2, u3]] w fun x w' => x = .returned (.bool r) ∧ Below w.heap.size w w' := by
 induction N with
 | zero => intro d _ h; have := cntT_pos d; omega
 | succ N ih =>
  intro d e hN r hr c0 c1 c2 c3 u0 u1 u2 u3 w hd he
  cases d with
  | mk k t ks ds =>
   cases e with
   | mk k' t' ks' es =>
    have HB0 := hid (Boxed2.make hd he)
    obtain ⟨rfl, rfl, hks, A, cap, rfl, hcap, hm, _, _⟩ := hd.parts
    obtain ⟨rfl, rfl, hks', A', cap', rfl, hcap', hm', _, _⟩ := he.parts
    have HIH := hid ih
    have hcN : cntL ds ≤ N := by rw [cntT] at hN; omega
    have HCN := hid hcN
    rw [sameT] at hr
    have HR0 := hid hr
    obtain ⟨n, hn⟩ : ∃ n, ds.length = n := ⟨_, rfl⟩
    have HN := hid hn
    obtain ⟨n', hn'⟩ : ∃ n', es.length = n' := ⟨_, rfl⟩
    have HN' := hid hn'
    rw [hn] at HB0 hcap ⊢
    rw [hn'] at HB0 hcap' ⊢
    unfold maxLen at hm hm'
    have hn63 : n ≤ 9223372036854775807 := by omega
    have hn63' : n' ≤ 9223372036854775807 := by omega
    clear ih hd he hn hn' hcN hN hr hks hks'
    by_cases hk : k = k'
    ·subst hk
     have p1 : (k != k) = false := by simp
     by_cases ht : t = t'
     ·subst ht
      obtain ⟨T, hT⟩ : ∃ T, ba t = T := ⟨_, rfl⟩
      rw [hT] at HB0 ⊢
      have p2 : (T.toList != T.toList) = false := by simp
      by_cases hkk : ks = ks'
      ·subst hkk
       have HKS := hid (fun W hW hW' => RSame_q c2 u2 ks ks W hW hW' true (decide_eq_true rfl))
       by_cases hnn : n = n'
       ·subst hnn
        clear hT
        go_enter Tryz.func14, Tryz.ntmps14
        obtain ⟨x0, x1, x2, x3⟩ := HB0.out.2.1.cells
        obtain ⟨y0, y1, y2, y3⟩ := HB0.out.2.2.1.cells
        go_wp2_with fail
        refine (HKS.out _ HB0.out.2.2.2.1.parts.2.2.1 HB0.out.2.2.2.2.parts.2.2.1).mono ?_
        rintro x w1 ⟨rfl, hb1⟩
        have HB1 := hid (HB0.out.go hb1)
        clear hb1 x0 x1 x2 x3 y0 y1 y2 y3
        obtain ⟨x0, x1, x2, x3⟩ := HB1.out.2.1.cells
        obtain ⟨y0, y1, y2, y3⟩ := HB1.out.2.2.1.cells
        go_wp2
        clear x0 x1 x2 x3 y0 y1 y2 y3
        go_loopw [5] (fun si wr => ∃ j : Nat, j ≤ n ∧ si = .int .i64 (j : Int) ∧ Hid (Boxed2 w wr (.mk k t ks ds) (.mk k t ks es) (.int .i64 k) (.string T) c2 (.slice A n cap) (.int .i64 k) (.string T) u2 (.slice A' n cap')) ∧ Hid (∀ (l : Nat) (h : l < ds.length) (g : l < es.length), l < j → sameT (ds[l]'h) (es[l]'g) = true)) (fun si _ => n - (intOf si).toNat)
        case atStart => exact ⟨0, Nat.zero_le _, rfl, HB1, hid fun i _ _ h => absurd h (Nat.not_lt_zero _)⟩
        case round =>
         clear HB0 HB1
         obtain ⟨j, hj, rfl, HB, HK⟩ := hrel
         by_cases hlt : j < n
         ·have hjl : j < ds.length := by rw [HN.out]; exact hlt
          have hjl' : j < es.length := by rw [HN'.out]; exact hlt
          have hjz : (j : Int) < (n : Int) := by omega
          have hck : cntT (ds[j]'hjl) ≤ cntL ds := cntL_mem (List.getElem_mem hjl)
          have hcall := HIH.out (ds[j]'hjl) (es[j]'hjl') (by have := HCN.out; omega)
          obtain ⟨z0, z1, z2, z3⟩ := HB.out.2.1.cells
          go_wp2
          refine region_tail 10 (by kernel_rfl) (by kernel_rfl) ?_
          intro w9 hw9
          simp only [List.take_succ_cons, List.take_zero, List.drop_succ_cons, List.drop_zero]
          have HB9 := hid (HB.out.go (w' := w9) (by rw [hw9]; exact below_drew _))
          clear hw9 z0 z1 z2 z3
          obtain ⟨x0, x1, x2, x3⟩ := HB9.out.2.1.cells
          obtain ⟨y0, y1, y2, y3⟩ := HB9.out.2.2.1.cells
          obtain ⟨b, o, e0, e1, e2, e3, rfl, hb, v0, v1, v2, v3, hnd⟩ := HB9.out.2.2.2.1.kid j hjl
          obtain ⟨b', o', f0, f1, f2, f3, rfl, hb', q0, q1, q2, q3, hnd'⟩ := HB9.out.2.2.2.2.kid j hjl'
          rcases Bool.eq_false_or_eq_true (sameT (ds[j]'hjl) (es[j]'hjl')) with hs | hs
          ·have HR := hid (hcall true hs e0 e1 e2 e3 f0 f1 f2 f3 w9 hnd hnd')
           have HSS := hid hs
           clear hnd hnd' hck hcall hs
           repeat still_step
           refine wpStill_nil ?_
           go_wp2_with (go_at_call 14; refine HR.out.mono ?_; rintro x w2 ⟨rfl, hb2⟩)
           have HB2 := hid (HB9.out.go hb2)
           clear hb2
           go_roundw
           case measure => simp [intOf]; omega
           case rel =>
            refine ⟨j + 1, by omega, by go_num, HB2, hid fun l hl gl hli => ?_⟩
            rcases Nat.lt_succ_iff_lt_or_eq.1 hli with h | rfl
            ·exact HK.out l hl gl h
            ·exact HSS.out
          ·have HR := hid (hcall false hs e0 e1 e2 e3 f0 f1 f2 f3 w9 hnd hnd')
           have HE : Hid (r = false) := hid (by rw [← HR0.out, sameL_no hjl hjl' hs, Bool.and_false])
           clear hnd hnd' hck hcall hs
           repeat still_step
           refine wpStill_nil ?_
           go_wp2_with (go_at_call 14; refine HR.out.mono ?_; rintro x w2 ⟨rfl, hb2⟩)
           go_ret
           exact ⟨ret_b HE.out.symm, (HB9.out.go hb2).1⟩
         ·obtain rfl : j = n := by omega
          have HE : Hid (r = true) := hid (by rw [← HR0.out, sameL_all (HN.out.trans HN'.out.symm) fun l hl gl => HK.out l hl gl (by rw [← HN.out]; exact hl)]; simp)
          obtain ⟨x0, x1, x2, x3⟩ := HB.out.2.1.cells
          go_wp2
          go_ret
          exact ⟨ret_b HE.out.symm, HB.out.1⟩
       ·have HE : Hid (r = false) := hid (by rw [← HR0.out, sameL_ne (by rw [HN.out, HN'.out]; exact hnn), Bool.and_false])
        have p4 : ((n : Int) != (n' : Int)) = true := bne_iff_ne.2 (by omega)
        clear hT
        go_enter Tryz.func14, Tryz.ntmps14
        go_wp2_with fail
        refine (HKS.out _ HB0.out.2.2.2.1.parts.2.2.1 HB0.out.2.2.2.2.parts.2.2.1).mono ?_
        rintro x w1 ⟨rfl, hb1⟩
        have HB1 := hid (HB0.out.go hb1)
        clear hb1
        obtain ⟨x0, x1, x2, x3⟩ := HB1.out.2.1.cells
        obtain ⟨y0, y1, y2, y3⟩ := HB1.out.2.2.1.cells
        go_wp2
        go_ret
        exact ⟨ret_b HE.out.symm, HB1.out.1⟩
      ·have HKS := hid (fun W hW hW' => RSame_q c2 u2 ks ks' W hW hW' false (decide_eq_false hkk))
       have HE : Hid (r = false) := hid (by rw [← HR0.out, decide_eq_false hkk, Bool.and_false, Bool.false_and])
       clear hT hkk
       go_enter Tryz.func14, Tryz.ntmps14
       go_wp2_with fail
       refine (HKS.out _ HB0.out.2.2.2.1.parts.2.2.1 HB0.out.2.2.2.2.parts.2.2.1).mono ?_
       rintro x w1 ⟨rfl, hb1⟩
       have HB1 := hid (HB0.out.go hb1)
       clear hb1
       go_wp2
       go_ret
       exact ⟨ret_b HE.out.symm, HB1.out.1⟩
     ·have HE : Hid (r = false) := hid (by rw [← HR0.out, decide_eq_false ht, Bool.and_false, Bool.false_and, Bool.false_and])
      obtain ⟨T, hT⟩ : ∃ T, ba t = T := ⟨_, rfl⟩
      obtain ⟨T', hT'⟩ : ∃ T', ba t' = T' := ⟨_, rfl⟩
      have p2 : (T.toList != T'.toList) = true := by rw [← hT, ← hT']; exact toList_bne ht
      have p3 : (T.toList == T'.toList) = false := by rw [← hT, ← hT']; exact toList_beq ht
      have p1 : (k != k) = false := by simp
      rw [hT, hT'] at HB0 ⊢
      clear hT hT' ht
      go_enter Tryz.func14, Tryz.ntmps14
      go_wp2
      go_ret
      exact ⟨ret_b HE.out.symm, HB0.out.1⟩
    ·have HE : Hid (r = false) := hid (by rw [← HR0.out, decide_eq_false hk, Bool.false_and, Bool.false_and, Bool.false_and])
     have p1 : (k != k') = true := bne_iff_ne.2 hk
     clear hk
     go_enter Tryz.func14, Tryz.ntmps14
     go_wp2
     go_ret
     exact ⟨ret_b HE.out.symm, HB0.out.1⟩
end
section
open Go.RowKit Go.Sort
open Nw N8 Q6 F9
theorem ret_i {a b : Int} (h : a = b) : Ending.returned (.int .i64 a) = .returned (.int .i64 b) := by rw [h]
end
section
open Go.RowKit Go.Sort
open Nw N8
theorem ret_i2 {a b c d : Int} (h : a = b) (g : c = d) : Ending.returned (.tuple #[.int .i64 a, .int .i64 c]) = .returned (.tuple #[.int .i64 b, .int .i64 d]) := by rw [h, g]
theorem ndw_shape {w : World} {d : Nd} {c0 c1 c2 c3 : Value} (h : NdW w d c0 c1 c2 c3) :
  ∃ (k : Int) (s : ByteArray) (a : Option Addr) (n c : Nat) (A : Option Addr) (m q : Nat), c0 = .int .i64 k ∧ c1 = .string s ∧ c2 = .slice a n c ∧ c3 = .slice A m q := by
 cases d with
 | mk k t ks ds =>
  obtain ⟨h0, h1, ⟨a, c, h4, _⟩, A, cap, h3, _⟩ := h.parts
  exact ⟨k, _, a, _, c, A, _, cap, h0, h1, h4, h3⟩
theorem measure_any (N : Nat) : ∀ (d : Nd), cntT d ≤ N → ∀ (most : Int), (cntT d : Int) ≤ most → most ≤ 1000000 → ∀ (c0 c1 c2 c3 : Value) (w : World), NdW w d c0 c1 c2 c3 →
  Calls Tryz.prog 77 #[.agg #[c0, c1, c2, c3], .int .i64 most] w fun e w' => e = .returned (.tuple #[.int .i64 (cntT d : Int), .int .i64 (depT d : Int)]) ∧ Below w.heap.size w w' := by
 induction N with
 | zero => intro d h; have := cntT_pos d; omega
 | succ N ih =>
  intro d hN most hmost hbig c0 c1 c2 c3 w hd
  cases d with
  | mk k t ks ds =>
   have HB0 := hid (Boxed.make hd)
   obtain ⟨rfl, rfl, _, A, cap, rfl, hcap, hm, hnil, _⟩ := hd.parts
   have HIH := hid ih
   obtain ⟨n, hn⟩ : ∃ n, ds.length = n := ⟨_, rfl⟩
   have HN := hid hn
   rw [cntT] at hmost hN
   have hnl : n ≤ 1000000 := by have := cntL_len ds; omega
   have hcN : cntL ds ≤ N := by omega
   rw [cntT, depT]
   have HC := hid hmost
   have HBG := hid hbig
   have HCN := hid hcN
   have HDL : Hid (depL ds ≤ cntL ds) := hid (by
    have := depT_cnt _ (.mk k t ks ds) (Nat.le_refl _)
    rw [depT, cntT] at this; omega)
   obtain ⟨TOT, hT⟩ : ∃ TOT, cntL ds = TOT := ⟨_, rfl⟩
   obtain ⟨DOT, hD⟩ : ∃ DOT, depL ds = DOT := ⟨_, rfl⟩
   have HT := hid hT
   have HD := hid hD
   rw [hT, hD]
   rw [hn] at HB0 hcap ⊢
   clear ih hd hn hcN hT hD hN hnil
   rw [HT.out] at hmost
   obtain ⟨TT, hTT⟩ : ∃ TT, ba t = TT := ⟨_, rfl⟩
   rw [hTT] at HB0 ⊢
   clear hTT
   go_enter Tryz.func77, Tryz.ntmps77
   obtain ⟨x0, x1, x2, x3⟩ := HB0.out.2.1.cells
   go_wp2
   clear x0 x1 x2 x3
   go_loopw [4, 5, 7, 8, 9, 13] (fun sc sd s7 s8 s9 si wr => ∃ (j C D : Nat), j ≤ n ∧ C ≤ 1000000 ∧ (1 ≤ C ∧ D ≤ C) ∧ si = .int .i64 (j : Int) ∧ sc = .int .i64 (C : Int) ∧ sd = .int .i64 (D : Int) ∧ Hid (C = 1 + cntL (ds.take j)) ∧ Hid (D = 1 + depL (ds.take j)) ∧ Hid (Boxed w wr (.mk k t ks ds) (.int .i64 k) (.string TT) c2 (.slice A n cap))) (fun _ _ _ _ _ si _ => n - (intOf si).toNat)
   case atStart => exact ⟨0, 1, 1, Nat.zero_le _, by omega, ⟨by omega, by omega⟩, rfl, rfl, rfl, hid rfl, hid rfl, HB0⟩
   case round =>
    clear HB0
    obtain ⟨j, C, D, hj, hC, ⟨hC1, hD⟩, rfl, rfl, rfl, HCJ, HDJ, HB⟩ := hrel
    by_cases hlt : j < n
    ·have hjl : j < ds.length := by rw [HN.out]; exact hlt
     have hjz : (j : Int) < (n : Int) := by omega
     obtain ⟨b, o, e0, e1, e2, e3, rfl, hb, y0, y1, y2, y3, hnd⟩ := HB.out.2.2.kid j hjl
     obtain ⟨k', s', a', n', c', A', m', q', rfl, rfl, rfl, rfl⟩ := ndw_shape hnd
     have hcj := cntL_take_succ hjl
     have hdj := depL_take_succ hjl
     have hle := cntL_take_le ds (j + 1)
     have hpos := cntT_pos (ds[j]'hjl)
     have hdc := depT_cnt _ (ds[j]'hjl) (Nat.le_refl _)
     have hsum : C + cntT (ds[j]'hjl) = 1 + cntL (ds.take (j + 1)) := by rw [hcj, HCJ.out]; omega
     have hal : Below wr.heap.size wr (wr.alloc (.cells #[.int .i64 k', .string s', .slice a' n' c', .slice A' m' q'] 25)) := (Below.refl _ _).alloc (Nat.le_refl _) _
     have hsm : (C : Int) + (cntT (ds[j]'hjl) : Int) ≤ most := by have := HC.out; have := HT.out; omega
     have HR := hid (HIH.out (ds[j]'hjl) (by have := cntL_mem (List.getElem_mem hjl); have := HCN.out; omega) (most - (C : Int)) (by omega) (by omega) _ _ _ _ _ (hnd.below hal))
     have HS := hid hsum
     have HB1 := hid (HB.out.go hal)
     have HDS : Hid (max D (depT (ds[j]'hjl) + 1) = 1 + depL (ds.take (j + 1))) := hid (by rw [hdj, HDJ.out]; omega)
     obtain ⟨z, hz⟩ : ∃ z, cntT (ds[j]'hjl) = z := ⟨_, rfl⟩
     obtain ⟨y, hy⟩ : ∃ y, depT (ds[j]'hjl) = y := ⟨_, rfl⟩
     rw [hz, hy] at HR
     rw [hz] at hsm HS hpos hdc
     rw [hy] at hdc HDS
     clear hnd hcj hdj hle hsum hz hy hal
     have p1 : ((C : Int) == most) = false := by rw [beq_eq_false_iff_ne]; omega
     have p2 : IntKind.i64.wrap (most - (C : Int)) = most - (C : Int) := IntWalk.i64_in _ (by omega)
     have hCz : C + z ≤ 1000000 := by omega
     have hyb : y ≤ 1000000 := by omega
     obtain ⟨M, hM⟩ : ∃ M, most - (C : Int) = M := ⟨_, rfl⟩
     rw [hM] at HR p2
     go_wp2_with (go_at_call 77; refine HR.out.mono ?_; rintro e w2 ⟨rfl, hb2⟩)
     have HB2 := hid (HB1.out.go hb2)
     clear hb2
     exact ⟨⟨j + 1, C + z, max D (y + 1), by omega, hCz, ⟨by omega, by omega⟩, by go_num, by go_num, by go_num, HS, HDS, HB2⟩, by simp [intOf]; omega⟩
    ·obtain rfl : j = n := by omega
     have HE : Hid (C = 1 + TOT) := hid (by rw [HCJ.out, List.take_of_length_le (by rw [HN.out]; exact Nat.le_refl _), HT.out])
     have HE2 : Hid (D = 1 + DOT) := hid (by rw [HDJ.out, List.take_of_length_le (by rw [HN.out]; exact Nat.le_refl _), HD.out])
     go_wp2
     refine bodyPost_ret (v := .tuple #[.int .i64 (C : Int), .int .i64 (D : Int)]) (by simp [results, Tryz.results77, go_sem]) rfl ⟨ret_i2 (by rw [HE.out]) (by rw [HE2.out]), HB.out.1⟩
end
end Go.Proofs.YtmdgpejedbkkdaaGreatDoor
