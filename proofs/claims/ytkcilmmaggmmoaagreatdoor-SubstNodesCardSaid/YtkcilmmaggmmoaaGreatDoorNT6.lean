/- RefNod1, NamKinds, NamNames, NamRefs, NodMeas -/
import Derived.Below
import Derived.BigQuiet
import Derived.Deep.LoopGhost
import Derived.Deep.QuietTactic
import Derived.IntWalk
import Derived.Laws.EntriesVeiled
import Derived.Lib.Hide
import Derived.ProofKit
import Derived.Shelf.Abstract
import Derived.Test.YtkcilmmaggmmoaaGreatDoorNT2
import Derived.Test.YtkcilmmaggmmoaaGreatDoorNT3
import Derived.Test.YtkcilmmaggmmoaaGreatDoorNT5
import Derived.Test.YtkcilmmaggmmoaaGreatDoorRows
import Derived.WalkKit
set_option linter.unusedVariables false
set_option linter.unusedSimpArgs false
set_option maxRecDepth 100000
set_option maxHeartbeats 16000000
open Go.Lib (hid)
namespace Go.Proofs.YtkcilmmaggmmoaaGreatDoor
namespace N8
end N8
namespace Nw
end Nw
end Go.Proofs.YtkcilmmaggmmoaaGreatDoor
namespace Go.Proofs.YtkcilmmaggmmoaaGreatDoor
section
open Go.RowKit Go.Sort
open Nw N8
def Row4 (w : World) (g : Nat) (t : TypeId) (a b c d : Value) : Prop := w.heap[g]? = some (.cells #[a, b, c, d] t (0, 0))
section
variable {w w' : World} {g B : Nat} {t : TypeId} {a b c d : Value}
theorem Row4.make (w : World) (t : TypeId) (a b c d : Value) : Row4 (w.alloc (.cells #[a, b, c, d] t)) w.heap.size t a b c d := by
 show (w.heap.push _)[w.heap.size]? = _
 simp
theorem Row4.below (h : Row4 w g t a b c d) (hb : Below B w w') (hg : g < B) : Row4 w' g t a b c d := (hb.block g hg).trans h
theorem Row4.lt (h : Row4 w g t a b c d) : g < w.heap.size := by
 rcases Nat.lt_or_ge g w.heap.size with hl | hl
 ·exact hl
 ·unfold Row4 at h; rw [Array.getElem?_eq_none hl] at h; cases h
theorem Row4.alloc (h : Row4 w g t a b c d) (o : Obj) : Row4 (w.alloc o) g t a b c d := (Below.heap_alloc w o g h.lt).trans h
theorem Row4.cells (h : Row4 w g t a b c d) : w.cell? ⟨g, 0, none⟩ = some a ∧ w.cell? ⟨g, 1, none⟩ = some b ∧ w.cell? ⟨g, 2, none⟩ = some c ∧ w.cell? ⟨g, 3, none⟩ = some d :=
 ⟨cell_of_row w g 0 _ t (0, 0) h, cell_of_row w g 1 _ t (0, 0) h, cell_of_row w g 2 _ t (0, 0) h, cell_of_row w g 3 _ t (0, 0) h⟩
theorem Row4.frozen (h : Row4 w g t a b c d) : w.frozen? ⟨g, 0, none⟩ = false ∧ w.frozen? ⟨g, 1, none⟩ = false ∧ w.frozen? ⟨g, 2, none⟩ = false ∧ w.frozen? ⟨g, 3, none⟩ = false := by
 unfold Row4 at h
 simp [World.frozen?, h]
end
theorem belowNext {w w1 w2 : World} (h : Below w.heap.size w w1) (g : Below w1.heap.size w1 w2) : Below w.heap.size w w2 := h.trans (g.mono h.size)
theorem ret_int {k : IntKind} {a b : Int} (h : a = b) : Ending.returned (.int k a) = .returned (.int k b) := by rw [h]
theorem ret_b {a b : Bool} (h : a = b) : Ending.returned (.bool a) = .returned (.bool b) := by rw [h]
theorem NdW.kid {w : World} {k : Int} {t : L8} {ks : List L8} {ds : List Nd} {c0 c1 c2 : Value} {A : Option Addr} {n cap : Nat} (h : NdW w (.mk k t ks ds) c0 c1 c2 (.slice A n cap)) (j : Nat) (hj : j < ds.length) :
  ∃ (b o : Nat) (e0 e1 e2 e3 : Value), A = some ⟨b, o, none⟩ ∧ b < w.heap.size ∧ w.cell? ⟨b, o + j * 4, none⟩ = some e0 ∧ w.cell? ⟨b, o + j * 4 + 1, none⟩ = some e1 ∧
    w.cell? ⟨b, o + j * 4 + 2, none⟩ = some e2 ∧ w.cell? ⟨b, o + j * 4 + 3, none⟩ = some e3 ∧ NdW w (ds[j]'hj) e0 e1 e2 e3 := by
 obtain ⟨_, _, _, A', cap', hA', _, _, _, hkid⟩ := h.parts
 have hAe : A = A' := by injection hA'
 subst hAe
 exact hkid j hj
def Boxed (w0 w : World) (d : Nd) (c0 c1 c2 c3 : Value) : Prop := Below w0.heap.size w0 w ∧ Row4 w w0.heap.size 25 c0 c1 c2 c3 ∧ NdW w d c0 c1 c2 c3
theorem Boxed.make {w : World} {d : Nd} {c0 c1 c2 c3 : Value} (h : NdW w d c0 c1 c2 c3) : Boxed w (w.alloc (.cells #[c0, c1, c2, c3] 25)) d c0 c1 c2 c3 :=
 ⟨(Below.refl _ _).alloc (Nat.le_refl _) _, Row4.make w _ _ _ _ _, h.below ((Below.refl _ _).alloc (Nat.le_refl _) _)⟩
theorem Boxed.go {w0 w w' : World} {d : Nd} {c0 c1 c2 c3 : Value} (h : Boxed w0 w d c0 c1 c2 c3) (hb : Below w.heap.size w w') : Boxed w0 w' d c0 c1 c2 c3 :=
 ⟨belowNext h.1 hb, h.2.1.below hb h.2.1.lt, h.2.2.below hb⟩
end
section
open Go.RowKit
open Nw
theorem len_eq (s : ByteArray) : s.data.toList.length = s.size := rfl
theorem getd (s : ByteArray) (k : Nat) (h : k < s.size) : s.data.toList.getD k 0 = s[k] := by
 rw [List.getD_eq_getElem?_getD, List.getElem?_eq_getElem (by rw [len_eq]; exact h)]; rfl
theorem low_any (c : UInt8) (w : World) : Calls Tryz.prog 86 #[.int .u8 c.toNat] w fun e w' => e = .returned (.bool (low c)) ∧ w = w' := by
 by_cases h1 : (97 : Int) ≤ (c.toNat : Int) <;> by_cases h2 : (c.toNat : Int) ≤ 122
 all_goals
  have H : Hid (low c = (decide ((97 : Int) ≤ (c.toNat : Int)) && decide ((c.toNat : Int) ≤ 122))) := hid (by unfold low; congr 1 <;> exact decide_eq_decide.2 (by omega))
  go_enter Tryz.func86, Tryz.ntmps86
  go_wp2
  all_goals (go_ret; exact ⟨ret_bool (by rw [H.out]; simp [h1, h2]), rfl⟩)
theorem upp_any (c : UInt8) (w : World) : Calls Tryz.prog 87 #[.int .u8 c.toNat] w fun e w' => e = .returned (.bool (upp c)) ∧ w = w' := by
 by_cases h1 : (65 : Int) ≤ (c.toNat : Int) <;> by_cases h2 : (c.toNat : Int) ≤ 90
 all_goals
  have H : Hid (upp c = (decide ((65 : Int) ≤ (c.toNat : Int)) && decide ((c.toNat : Int) ≤ 90))) := hid (by unfold upp; congr 1 <;> exact decide_eq_decide.2 (by omega))
  go_enter Tryz.func87, Tryz.ntmps87
  go_wp2
  all_goals (go_ret; exact ⟨ret_bool (by rw [H.out]; simp [h1, h2]), rfl⟩)
theorem dig_any (c : UInt8) (w : World) : Calls Tryz.prog 90 #[.int .u8 c.toNat] w fun e w' => e = .returned (.bool (dig c)) ∧ w = w' := by
 by_cases h1 : (48 : Int) ≤ (c.toNat : Int) <;> by_cases h2 : (c.toNat : Int) ≤ 57
 all_goals
  have H : Hid (dig c = (decide ((48 : Int) ≤ (c.toNat : Int)) && decide ((c.toNat : Int) ≤ 57))) := hid (by unfold dig; congr 1 <;> exact decide_eq_decide.2 (by omega))
  go_enter Tryz.func90, Tryz.ntmps90
  go_wp2
  all_goals (go_ret; exact ⟨ret_bool (by rw [H.out]; simp [h1, h2]), rfl⟩)
theorem v1_any (c : UInt8) (w : World) : Calls Tryz.prog 85 #[.int .u8 c.toNat] w fun e w' => e = .returned (.bool (v1 c)) ∧ w = w' := by
 have H : Hid (v1 c = (low c || upp c || isC 95 c)) := hid rfl
 rcases Bool.eq_false_or_eq_true (low c) with h0 | h0 <;> rcases Bool.eq_false_or_eq_true (upp c) with h1 | h1 <;> rcases Bool.eq_false_or_eq_true (isC 95 c) with h2 | h2
 all_goals
  have m2 : ((c.toNat : Int) == 95) = isC 95 c := by unfold isC; rw [Bool.eq_iff_iff]; simp only [beq_iff_eq, decide_eq_true_eq]; omega
  rw [h2] at m2
  go_enter Tryz.func85, Tryz.ntmps85
  go_wp2_with (first | (go_at_call 86; refine (low_any _ _).mono ?_; rintro e w' ⟨rfl, rfl⟩) | (go_at_call 87; refine (upp_any _ _).mono ?_; rintro e w' ⟨rfl, rfl⟩))
  all_goals (first | (exfalso; simp_all; done) | (go_ret; exact ⟨ret_bool (by rw [H.out]; simp [h0, h1, h2]), rfl⟩))
theorem v2_any (c : UInt8) (B : Nat) (w : World) (hc : w.cell? ⟨B, 0, none⟩ = some (.func (.func 85) #[] #[])) : Calls Tryz.prog 89 #[.int .u8 c.toNat, .pointer (some ⟨B, 0, none⟩)] w fun e w' => e = .returned (.bool (v2 c)) ∧ w = w' := by
 have H : Hid (v2 c = (v1 c || dig c)) := hid rfl
 rcases Bool.eq_false_or_eq_true (v1 c) with h0 | h0 <;> rcases Bool.eq_false_or_eq_true (dig c) with h1 | h1
 all_goals
  go_enter Tryz.func89, Tryz.ntmps89
  go_wp2_with (first | (go_at_call 85; refine (v1_any _ _).mono ?_; rintro e w' ⟨rfl, rfl⟩) | (go_at_call 90; refine (dig_any _ _).mono ?_; rintro e w' ⟨rfl, rfl⟩))
  all_goals (first | (exfalso; simp_all; done) | (go_ret; exact ⟨ret_bool (by rw [H.out]; simp [h0, h1]), rfl⟩))
def Tells (g : Nat) (lb : Array Value) (p : UInt8 → Bool) (w : World) : Prop :=
 ∀ c : UInt8, Calls Tryz.prog g (#[.int .u8 c.toNat] ++ lb) w fun e w' => e = .returned (.bool (p c)) ∧ w = w'
theorem isName_any (s : ByteArray) (a b : UInt8 → Bool) (g1 g2 : Nat) (lb1 lb2 : Array Value) (w : World) (hs : s.size ≤ maxLen)
  (e1 : ∀ args w, (callFunc g1 args).run Tryz.prog w = .ok (.enter g1 args) w) (e2 : ∀ args w, (callFunc g2 args).run Tryz.prog w = .ok (.enter g2 args) w)
  (t1 : Tells g1 lb1 a w) (t2 : Tells g2 lb2 b w) :
  Calls Tryz.prog 88 #[.string s, .func (.func g1) #[] lb1, .func (.func g2) #[] lb2] w fun e w' => e = .returned (.bool (nm a b s.data.toList)) ∧ w = w' := by
 unfold maxLen at hs
 have T1 : Hid (Tells g1 lb1 a w) := hid t1
 have T2 : Hid (Tells g2 lb2 b w) := hid t2
 clear t1 t2
 by_cases h0 : s.data.toList = []
 ·obtain rfl : s = ⟨#[]⟩ := by
   cases s; rename_i x; cases x; simp at h0; simp [h0]
  clear h0
  go_enter Tryz.func88, Tryz.ntmps88
  go_wp2
  go_ret
  exact ⟨ret_bool (nm_nil rfl).symm, rfl⟩
 ·have hpos : 0 < s.size := by rw [← len_eq]; exact List.length_pos_iff.2 h0
  have b1 : s.toList.isEmpty = false := by rw [ByteArray.toList_eq, List.isEmpty_eq_false_iff]; exact h0
  have b2 : ¬ s.toList = [] := by rw [ByteArray.toList_eq]; exact h0
  clear h0
  by_cases h1 : 24 < s.size
  ·have H := hid (nm_long (a := a) (b := b) (l := s.data.toList) h1)
   have h1' : (24 : Int) < (s.size : Int) := by omega
   go_enter Tryz.func88, Tryz.ntmps88
   go_wp2
   go_ret
   exact ⟨ret_bool H.out.symm, rfl⟩
  ·have h1' : ¬ (24 : Int) < (s.size : Int) := by omega
   have hl : Hid (s.size ≤ 24) := hid (by omega)
   have hcall := T1.out s[0]
   have e1' := hid (getd s 0 hpos)
   rcases Bool.eq_false_or_eq_true (a s[0]) with h2 | h2
   ·rw [h2] at hcall
    go_enter Tryz.func88, Tryz.ntmps88
    go_wp2_with (go_at_fn g1; refine hcall.mono ?_; rintro e w' ⟨rfl, rfl⟩)
    have HA := hid h2
    clear h2 hcall
    go_loop [7] (fun i => ∃ k : Nat, 1 ≤ k ∧ k ≤ s.size ∧ i = .int .i64 k ∧ good a b s.data.toList k) (fun i => s.size - (intOf i).toNat)
    case atStart =>
     refine ⟨1, Nat.le_refl _, hpos, rfl, good_succ (good_zero _ _ _) ?_⟩
     rw [e1'.out]; exact HA.out
    case round =>
     obtain ⟨k, hk1, hk, rfl, hall⟩ := hrel
     have HG := hid hall; clear hall
     by_cases hlt : k < s.size
     ·have hcall := T2.out s[k]
      have e2' := hid (getd s k hlt)
      rcases Bool.eq_false_or_eq_true (b s[k]) with h3 | h3
      ·rw [h3] at hcall
       have HB := hid h3; clear h3
       go_wp2_with (go_at_fn g2; refine hcall.mono ?_; rintro e w' ⟨rfl, rfl⟩)
       go_round
       case rel => exact ⟨k + 1, by omega, by omega, by go_num, good_succ HG.out (by rw [e2'.out]; unfold okAt; rw [if_neg (by omega)]; exact HB.out)⟩
       case measure => simp [intOf]; omega
      ·rw [h3] at hcall
       have HB := hid h3; clear h3
       go_wp2_with (go_at_fn g2; refine hcall.mono ?_; rintro e w' ⟨rfl, rfl⟩)
       go_ret
       exact ⟨ret_bool (nm_not (k := k) (by rw [len_eq]; exact hlt) (by rw [e2'.out]; unfold okAt; rw [if_neg (by omega)]; exact HB.out)).symm, rfl⟩
     ·go_wp2
      go_ret
      obtain rfl : k = s.size := by omega
      exact ⟨ret_bool (nm_yes hpos hl.out HG.out).symm, rfl⟩
   ·rw [h2] at hcall
    go_enter Tryz.func88, Tryz.ntmps88
    go_wp2_with (go_at_fn g1; refine hcall.mono ?_; rintro e w' ⟨rfl, rfl⟩)
    go_ret
    exact ⟨ret_bool (nm_not (k := 0) (by rw [len_eq]; exact hpos) (by rw [e1'.out]; exact h2)).symm, rfl⟩
end
section
open Go.RowKit
open Nw
theorem Variable_any (s : ByteArray) (w : World) (hs : s.size ≤ maxLen) :
  Calls Tryz.prog 70 #[.string s] w fun e w' => e = .returned (.bool (nm v1 v2 s.data.toList)) ∧ Below w.heap.size w w' := by
 have HS := hid hs
 clear hs
 have e1 : ∀ args w, (callFunc 85 args).run Tryz.prog w = .ok (.enter 85 args) w := enters_of Tryz.func85 (by kernel_rfl) rfl
 have e2 : ∀ args w, (callFunc 89 args).run Tryz.prog w = .ok (.enter 89 args) w := enters_of Tryz.func89 (by kernel_rfl) rfl
 have HC := fun (W : World) (hc : W.cell? ⟨w.heap.size, 0, none⟩ = some (.func (.func 85) #[] #[])) =>
  isName_any s v1 v2 85 89 #[] #[.pointer (some ⟨w.heap.size, 0, none⟩)] W HS.out e1 e2 (fun c => v1_any c W) (fun c => v2_any c w.heap.size W hc)
 have HCC := hid HC
 clear HC e1 e2
 go_enter Tryz.func70, Tryz.ntmps70
 go_wp2_with (go_at_call 88; refine (HCC.out _ (by simp)).mono ?_; rintro e w' ⟨rfl, rfl⟩)
 go_ret
 refine ⟨rfl, ?_⟩
 first | exact ((Below.refl _ _).alloc (Nat.le_refl _) _).setCell (Nat.le_refl _) _ | exact (Below.refl _ _).alloc (Nat.le_refl _) _
end
section
open Go.RowKit
open Nw
theorem int_eq {k : IntKind} {a b : Int} (h : a = b) : Value.int k a = .int k b := by rw [h]
theorem Kind_any (c : UInt8) (w : World) : Calls Tryz.prog 46 #[.int .u8 c.toNat] w fun e w' => e = .returned (.int .i64 (kind c)) ∧ w = w' := by
 have HK := hid (rfl : kind c = kind c)
 unfold kind at HK
 by_cases h1 : (97 : Int) ≤ (c.toNat : Int) <;> by_cases h2 : (c.toNat : Int) ≤ 122 <;> by_cases h3 : (65 : Int) ≤ (c.toNat : Int) <;> by_cases h4 : (c.toNat : Int) ≤ 90 <;> by_cases h5 : (48 : Int) ≤ (c.toNat : Int) <;> by_cases h6 : (c.toNat : Int) ≤ 57 <;> by_cases h7 : (c.toNat : Int) = 95 <;> by_cases h8 : (c.toNat : Int) = 45 <;> by_cases h9 : (c.toNat : Int) = 46
 all_goals first
  | (exfalso; omega)
  | (
   go_enter Tryz.func46, Tryz.ntmps46
   go_wp2
   go_ret
   refine ⟨ret_int ?_, rfl⟩
   unfold kind
   repeat' split
   all_goals first | rfl | omega)
theorem RVariable_any (s : ByteArray) (w : World) (hs : s.size ≤ maxLen) :
  Calls Tryz.prog 31 #[.string s] w fun e w' => e = .returned (.bool (nm v1 v2 s.data.toList)) ∧ w = w' := by
 unfold maxLen at hs
 by_cases h0 : (s.size : Int) < 1
 ·have H : Hid (nm v1 v2 s.data.toList = false) := hid (nm_nil (by rw [len_eq]; omega))
  go_enter Tryz.func31, Tryz.ntmps31
  go_wp2
  go_ret
  exact ⟨ret_bool H.out.symm, rfl⟩
 by_cases h1 : (24 : Int) < (s.size : Int)
 ·have H : Hid (nm v1 v2 s.data.toList = false) := hid (nm_long (by rw [len_eq]; omega))
  go_enter Tryz.func31, Tryz.ntmps31
  go_wp2
  go_ret
  exact ⟨ret_bool H.out.symm, rfl⟩
 have hpos : Hid (0 < s.size) := hid (by omega)
 have hl : Hid (s.size ≤ 24) := hid (by omega)
 go_enter Tryz.func31, Tryz.ntmps31
 go_wp2
 go_loop [3, 4] (fun i kk => ∃ k : Nat, k ≤ s.size ∧ i = .int .i64 k ∧ good v1 v2 s.data.toList k) (fun i _ => s.size - (intOf i).toNat)
 case atStart => exact ⟨0, Nat.zero_le _, rfl, good_zero _ _ _⟩
 case round =>
  obtain ⟨k, hk, rfl, hall⟩ := hrel
  have HG := hid hall; clear hall
  by_cases hlt : k < s.size
  ·have e2' := hid (getd s k hlt)
   have hcall := Kind_any s[k] w
   have K := hid (And.intro (k_v1 s[k]) (k_v2 s[k]))
   generalize kind s[k] = q at hcall K
   by_cases hk0 : k = 0
   ·subst hk0
    have A : Hid (okAt v1 v2 0 s[0] = decide (q ≠ 0 ∧ q ≤ 4 ∧ q ≠ 3)) := hid (by unfold okAt; rw [if_pos rfl, K.out.1]; first | done | (rw [Bool.eq_iff_iff]; simp; done) | (rw [Bool.eq_iff_iff]; simp; omega))
    clear K
    by_cases z0 : (q : Int) = 0 <;> by_cases g4 : (4 : Int) < (q : Int) <;> by_cases z3 : (q : Int) = 3
    all_goals try (exfalso; omega)
    all_goals first | (have b0 : ((q : Int) == 0) = true := beq_iff_eq.2 z0) | (have b0 : ((q : Int) == 0) = false := beq_eq_false_iff_ne.2 z0)
    all_goals first | (have b3 : ((q : Int) == 3) = true := beq_iff_eq.2 z3) | (have b3 : ((q : Int) == 3) = false := beq_eq_false_iff_ne.2 z3)
    all_goals first | (have d4 : decide ((4 : Int) < (q : Int)) = true := decide_eq_true g4) | (have d4 : decide ((4 : Int) < (q : Int)) = false := decide_eq_false g4)
    all_goals
     go_wp2_with (go_at_call 46; refine hcall.mono ?_; rintro e w' ⟨rfl, rfl⟩)
     first
     | (
      go_ret
      exact ⟨ret_bool (nm_not (k := 0) (by rw [len_eq]; exact hlt) (by rw [e2'.out, A.out]; exact decide_eq_false (by omega))).symm, rfl⟩)
     | (
      refine ⟨⟨1, by omega, int_eq (by omega), good_succ HG.out (by rw [e2'.out, A.out]; exact decide_eq_true (by omega))⟩, ?_⟩
      first | (simp [intOf]; done) | (simp [intOf]; omega))
   ·have hk0' : ¬ (k : Int) = 0 := by omega
    have A : Hid (okAt v1 v2 k s[k] = decide (q ≠ 0 ∧ q ≤ 4)) := hid (by unfold okAt; rw [if_neg hk0, K.out.2]; first | done | (rw [Bool.eq_iff_iff]; simp; done) | (rw [Bool.eq_iff_iff]; simp; omega))
    clear K
    by_cases z0 : (q : Int) = 0 <;> by_cases g4 : (4 : Int) < (q : Int)
    all_goals try (exfalso; omega)
    all_goals first | (have b0 : ((q : Int) == 0) = true := beq_iff_eq.2 z0) | (have b0 : ((q : Int) == 0) = false := beq_eq_false_iff_ne.2 z0)
    all_goals first | (have d4 : decide ((4 : Int) < (q : Int)) = true := decide_eq_true g4) | (have d4 : decide ((4 : Int) < (q : Int)) = false := decide_eq_false g4)
    all_goals
     go_wp2_with (go_at_call 46; refine hcall.mono ?_; rintro e w' ⟨rfl, rfl⟩)
     first
     | (
      go_ret
      exact ⟨ret_bool (nm_not (k := k) (by rw [len_eq]; exact hlt) (by rw [e2'.out, A.out]; exact decide_eq_false (by omega))).symm, rfl⟩)
     | (
      refine ⟨⟨k + 1, by omega, int_eq (by omega), good_succ HG.out (by rw [e2'.out, A.out]; exact decide_eq_true (by omega))⟩, ?_⟩
      first | (simp [intOf]; done) | (simp [intOf]; omega))
  ·go_wp2
   go_ret
   obtain rfl : k = s.size := by omega
   exact ⟨ret_bool (nm_yes hpos.out hl.out HG.out).symm, rfl⟩
end
section
open Go.RowKit Go.Sort
open Nw N8
theorem ret_i2 {a b c d : Int} (h : a = b) (g : c = d) : Ending.returned (.tuple #[.int .i64 a, .int .i64 c]) = .returned (.tuple #[.int .i64 b, .int .i64 d]) := by rw [h, g]
theorem ndw_shape {w : World} {d : Nd} {c0 c1 c2 c3 : Value} (h : NdW w d c0 c1 c2 c3) :
  ∃ (k : Int) (s : ByteArray) (a : Option Addr) (n c : Nat) (A : Option Addr) (m q : Nat), c0 = .int .i64 k ∧ c1 = .string s ∧ c2 = .slice a n c ∧ c3 = .slice A m q := by
 cases d with
 | mk k t ks ds =>
  obtain ⟨h0, h1, ⟨a, c, h4, _⟩, A, cap, h3, _⟩ := h.parts
  exact ⟨k, _, a, _, c, A, _, cap, h0, h1, h4, h3⟩
theorem measure_any (N : Nat) : ∀ (d : Nd), cntT d ≤ N → ∀ (most : Int), (cntT d : Int) ≤ most → most ≤ 1000000 → ∀ (c0 c1 c2 c3 : Value) (w : World), NdW w d c0 c1 c2 c3 →
  Calls Tryz.prog 64 #[.agg #[c0, c1, c2, c3], .int .i64 most] w fun e w' => e = .returned (.tuple #[.int .i64 (cntT d : Int), .int .i64 (depT d : Int)]) ∧ Below w.heap.size w w' := by
 induction N with
 | zero => intro d h; have := cntT_pos d; omega
 | succ N ih =>
  intro d hN most hmost hbig c0 c1 c2 c3 w hd
  cases d with
  | mk k t ks ds =>
   have HB0 := hid (Boxed.make hd)
   obtain ⟨rfl, rfl, _, A, cap, rfl, hcap, hm, hnil, _⟩ := hd.parts
   have HIH := hid ih
   obtain ⟨n, hn⟩ : ∃ n, ds.length = n := ⟨_, rfl⟩
   have HN := hid hn
   rw [cntT] at hmost hN
   have hnl : n ≤ 1000000 := by have := cntL_len ds; omega
   have hcN : cntL ds ≤ N := by omega
   rw [cntT, depT]
   have HC := hid hmost
   have HBG := hid hbig
   have HCN := hid hcN
   have HDL : Hid (depL ds ≤ cntL ds) := hid (by
    have := depT_cnt _ (.mk k t ks ds) (Nat.le_refl _)
    rw [depT, cntT] at this; omega)
   obtain ⟨TOT, hT⟩ : ∃ TOT, cntL ds = TOT := ⟨_, rfl⟩
   obtain ⟨DOT, hD⟩ : ∃ DOT, depL ds = DOT := ⟨_, rfl⟩
   have HT := hid hT
   have HD := hid hD
   rw [hT, hD]
   rw [hn] at HB0 hcap ⊢
   clear ih hd hn hcN hT hD hN hnil
   rw [HT.out] at hmost
   obtain ⟨TT, hTT⟩ : ∃ TT, ba t = TT := ⟨_, rfl⟩
   rw [hTT] at HB0 ⊢
   clear hTT
   go_enter Tryz.func64, Tryz.ntmps64
   obtain ⟨x0, x1, x2, x3⟩ := HB0.out.2.1.cells
   go_wp2
   clear x0 x1 x2 x3
   go_loopw [4, 5, 7, 8, 9, 13] (fun sc sd s7 s8 s9 si wr => ∃ (j C D : Nat), j ≤ n ∧ C ≤ 1000000 ∧ (1 ≤ C ∧ D ≤ C) ∧ si = .int .i64 (j : Int) ∧ sc = .int .i64 (C : Int) ∧ sd = .int .i64 (D : Int) ∧ Hid (C = 1 + cntL (ds.take j)) ∧ Hid (D = 1 + depL (ds.take j)) ∧ Hid (Boxed w wr (.mk k t ks ds) (.int .i64 k) (.string TT) c2 (.slice A n cap))) (fun _ _ _ _ _ si _ => n - (intOf si).toNat)
   case atStart => exact ⟨0, 1, 1, Nat.zero_le _, by omega, ⟨by omega, by omega⟩, rfl, rfl, rfl, hid rfl, hid rfl, HB0⟩
   case round =>
    clear HB0
    obtain ⟨j, C, D, hj, hC, ⟨hC1, hD⟩, rfl, rfl, rfl, HCJ, HDJ, HB⟩ := hrel
    by_cases hlt : j < n
    ·have hjl : j < ds.length := by rw [HN.out]; exact hlt
     have hjz : (j : Int) < (n : Int) := by omega
     obtain ⟨b, o, e0, e1, e2, e3, rfl, hb, y0, y1, y2, y3, hnd⟩ := HB.out.2.2.kid j hjl
     obtain ⟨k', s', a', n', c', A', m', q', rfl, rfl, rfl, rfl⟩ := ndw_shape hnd
     have hcj := cntL_take_succ hjl
     have hdj := depL_take_succ hjl
     have hle := cntL_take_le ds (j + 1)
     have hpos := cntT_pos (ds[j]'hjl)
     have hdc := depT_cnt _ (ds[j]'hjl) (Nat.le_refl _)
     have hsum : C + cntT (ds[j]'hjl) = 1 + cntL (ds.take (j + 1)) := by rw [hcj, HCJ.out]; omega
     have hal : Below wr.heap.size wr (wr.alloc (.cells #[.int .i64 k', .string s', .slice a' n' c', .slice A' m' q'] 25)) := (Below.refl _ _).alloc (Nat.le_refl _) _
     have hsm : (C : Int) + (cntT (ds[j]'hjl) : Int) ≤ most := by have := HC.out; have := HT.out; omega
     have HR := hid (HIH.out (ds[j]'hjl) (by have := cntL_mem (List.getElem_mem hjl); have := HCN.out; omega) (most - (C : Int)) (by omega) (by omega) _ _ _ _ _ (hnd.below hal))
     have HS := hid hsum
     have HB1 := hid (HB.out.go hal)
     have HDS : Hid (max D (depT (ds[j]'hjl) + 1) = 1 + depL (ds.take (j + 1))) := hid (by rw [hdj, HDJ.out]; omega)
     obtain ⟨z, hz⟩ : ∃ z, cntT (ds[j]'hjl) = z := ⟨_, rfl⟩
     obtain ⟨y, hy⟩ : ∃ y, depT (ds[j]'hjl) = y := ⟨_, rfl⟩
     rw [hz, hy] at HR
     rw [hz] at hsm HS hpos hdc
     rw [hy] at hdc HDS
     clear hnd hcj hdj hle hsum hz hy hal
     have p1 : ((C : Int) == most) = false := by rw [beq_eq_false_iff_ne]; omega
     have p2 : IntKind.i64.wrap (most - (C : Int)) = most - (C : Int) := IntWalk.i64_in _ (by omega)
     have hCz : C + z ≤ 1000000 := by omega
     have hyb : y ≤ 1000000 := by omega
     obtain ⟨M, hM⟩ : ∃ M, most - (C : Int) = M := ⟨_, rfl⟩
     rw [hM] at HR p2
     go_wp2_with (go_at_call 64; refine HR.out.mono ?_; rintro e w2 ⟨rfl, hb2⟩)
     have HB2 := hid (HB1.out.go hb2)
     clear hb2
     exact ⟨⟨j + 1, C + z, max D (y + 1), by omega, hCz, ⟨by omega, by omega⟩, by go_num, by go_num, by go_num, HS, HDS, HB2⟩, by simp [intOf]; omega⟩
    ·obtain rfl : j = n := by omega
     have HE : Hid (C = 1 + TOT) := hid (by rw [HCJ.out, List.take_of_length_le (by rw [HN.out]; exact Nat.le_refl _), HT.out])
     have HE2 : Hid (D = 1 + DOT) := hid (by rw [HDJ.out, List.take_of_length_le (by rw [HN.out]; exact Nat.le_refl _), HD.out])
     go_wp2
     refine bodyPost_ret (v := .tuple #[.int .i64 (C : Int), .int .i64 (D : Int)]) (by simp [results, Tryz.results64, go_sem]) rfl ⟨ret_i2 (by rw [HE.out]) (by rw [HE2.out]), HB.out.1⟩
end
end Go.Proofs.YtkcilmmaggmmoaaGreatDoor
