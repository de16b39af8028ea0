/- SubBoth, SubLen, SubNode, NodMem, SubWord -/
import Derived.Laws.OwnMore
import Derived.SliceStrings
import Derived.Test.YtkcilmmaggmmoaaDoorGT15
import Derived.Test.YtkcilmmaggmmoaaDoorGT19
import Derived.Test.YtkcilmmaggmmoaaDoorGT2
import Derived.Test.YtkcilmmaggmmoaaDoorGT5
set_option linter.unusedVariables false
set_option linter.unusedSimpArgs false
set_option maxRecDepth 100000
set_option maxHeartbeats 16000000
namespace Go.Proofs.YtkcilmmaggmmoaaDoor
namespace N8
end N8
namespace Nw
end Nw
namespace S14
end S14
namespace T13
end T13
end Go.Proofs.YtkcilmmaggmmoaaDoor
namespace Go.Proofs.YtkcilmmaggmmoaaDoor
namespace S14
open Nw T13
def thenL (E : Env) (r : SR) (b : List Pt) : SR := match r with
 | .err e k y => .err e k y
 | .ok t => sayL E t b
theorem sayL_app {E : Env} : ∀ (a b : List Pt) (out : L8), sayL E out (a ++ b) = thenL E (sayL E out a) b
 | [], b, out => by rw [sayL]; rfl
 | p :: a, b, out => by
  rw [List.cons_append, sayL, sayL]
  cases sayP E p with
  | err e k y => rfl
  | ok t =>
   simp only []
   split
   ·rfl
   ·exact sayL_app a b (out ++ t)
theorem say_lit {E : Env} {n t : L8} {s : List Pt} (ps : List Pt) (out : L8) : sayL E out (.mk n t 0 s :: ps) = if 8192 < (out ++ t).length then .err 9 [] [] else sayL E (out ++ t) ps := by
 rw [sayL, show sayP E (.mk n t 0 s) = .ok t by rw [sayP, if_pos rfl]]
theorem say_fl {E : Env} (done : List Pt) (lit out : L8) (ps : List Pt) (ho : out.length ≤ 8192) : sayL E out (fl done lit ++ ps) = thenL E (sayL E out done) (.mk [] lit 0 [] :: ps) := by
 unfold fl
 split
 ·rename_i h
  rw [sayL_app]
  cases hd : sayL E out done with
  | err e k y => rfl
  | ok t =>
   have := sayL_ok_len done out t ho hd
   show sayL E t ps = sayL E t _
   rw [say_lit, h, List.append_nil, if_neg (by omega)]
 ·rw [List.append_assoc, sayL_app]; rfl
theorem say_absb {E : Env} : ∀ (m done : List Pt) (lit out : L8), out.length ≤ 8192 → sayL E out (fl (absb done lit m).1 (absb done lit m).2) = sayL E out (fl done lit ++ m)
 | [], done, lit, out, _ => by rw [absb, List.append_nil]
 | .mk n t o s :: m, done, lit, out, ho => by
  rw [absb]
  by_cases h0 : (Pt.mk n t o s).op = 0
  ·rw [if_pos h0, say_absb m done _ out ho, say_fl _ _ _ _ ho, say_fl _ _ _ _ ho]
   cases sayL E out done with
   | err e k y => rfl
   | ok u =>
    obtain rfl : o = 0 := h0
    show sayL E u _ = sayL E u _
    rw [say_lit, say_lit, say_lit]
    show (if 8192 < (u ++ (lit ++ t)).length then SR.err 9 [] [] else sayL E (u ++ (lit ++ t)) m) = _
    rw [← List.append_assoc]
    by_cases h1 : 8192 < (u ++ lit).length
    ·rw [if_pos h1, if_pos (by rw [List.length_append]; omega)]
    ·rw [if_neg h1]
  ·rw [if_neg h0, say_absb m _ [] out ho]
   rw [show fl (fl done lit ++ [Pt.mk n t o s]) [] = fl done lit ++ [Pt.mk n t o s] by unfold fl; rw [if_pos rfl], List.append_assoc]
   rfl
theorem say_both {E : Env} {a b R : List Pt} (ha : WfL 1 a) (hc : calm a) (hb : WfL 1 b) (hR : prsT (txtL a ++ txtL b) = .ok R []) : sayL E [] R = thenL E (sayL E [] a) b := by
 have h1 : prsT (txtL a ++ txtL b) = .ok (fl (absb (absb [] [] a).1 (absb [] [] a).2 b).1 (absb (absb [] [] a).1 (absb [] [] a).2 b).2) [] := by
  unfold prsT
  have := prsL_txt b 1 (absb [] [] a).1 (absb [] [] a).2 [] (Nat.le_refl _) hb
  rw [List.append_nil] at this
  rw [prsL_txt a 1 [] [] _ (Nat.le_refl _) ha, this, A_nil]
 rw [h1] at hR
 injection hR with hR
 rw [← hR, say_absb _ _ _ _ (Nat.zero_le _)]
 have hc2 : fl (absb [] [] a).1 (absb [] [] a).2 = a := hc
 rw [hc2, sayL_app]
end S14
end Go.Proofs.YtkcilmmaggmmoaaDoor
namespace Go.Proofs.YtkcilmmaggmmoaaDoor
namespace S14
open Nw T13
mutual
theorem sayP_err {E : Env} : ∀ (p : Pt) {e : Int} {k y : L8}, sayP E p = .err e k y → e = 4 ∨ e = 9
 | .mk n t o s, e, k, y, h => by
  rw [sayP] at h
  split at h
  ·cases h
  ·split at h
   ·exact sayL_err s [] h
   ·split at h
    ·cases h; exact .inl rfl
    ·split at h <;> cases h
theorem sayL_err {E : Env} : ∀ (ps : List Pt) (out : L8) {e : Int} {k y : L8}, sayL E out ps = .err e k y → e = 4 ∨ e = 9
 | [], out, e, k, y, h => by rw [sayL] at h; cases h
 | p :: ps, out, e, k, y, h => by
  rw [sayL] at h
  cases hp : sayP E p with
  | err e' k' y' => rw [hp] at h; cases h; exact sayP_err p hp
  | ok t =>
   rw [hp] at h
   simp only [] at h
   split at h
   ·cases h; exact .inr rfl
   ·exact sayL_err ps _ h
end
theorem sayP_len {E : Env} (hE : ∀ n v, E n = some v → v.length ≤ 1000000) : ∀ (p : Pt) {t : L8}, (txtP p).length ≤ 1000000 → sayP E p = .ok t → t.length ≤ 1000000
 | .mk n t o s, u, hl, h => by
  rw [sayP] at h
  split at h
  ·rename_i h0
   cases h
   rw [txtP, if_pos h0] at hl
   exact Nat.le_trans (escD_ge t) hl
  ·split at h
   ·exact Nat.le_trans (sayL_ok_len s [] u (Nat.zero_le _) h) (by decide)
   ·split at h
    ·cases h
    ·split at h
     ·cases h; exact Nat.zero_le _
     ·cases h
      cases hn : E n with
      | none => exact Nat.zero_le _
      | some v => exact hE n v hn
theorem txtP_le {ps : List Pt} {j : Nat} (h : j < ps.length) : (txtP (ps[j]'h)).length ≤ (txtL ps).length := by
 have e1 := txtL_take h
 have e2 := txtL_pre ps (j + 1)
 rw [e1, List.length_append] at e2
 omega
theorem txtS_le (n t : L8) (o : Int) (s : List Pt) (h : 1 < o) : (txtL s).length ≤ (txtP (.mk n t o s)).length := by
 rw [txtP, if_neg (by omega)]
 simp only [List.length_cons, List.length_append, if_pos h]
 omega
end S14
end Go.Proofs.YtkcilmmaggmmoaaDoor
namespace Go.Proofs.YtkcilmmaggmmoaaDoor
namespace S14
open Nw
def sayX (E : Env) (s : L8) : SR := match T13.prsT s with
 | .err e => .err e [] []
 | .ok ps _ => sayL E [] ps
theorem sayL_ne {E : Env} (ps : List T13.Pt) (out : L8) {e : Int} {k y : L8} (h : sayL E out ps = .err e k y) : e ≠ 0 := by
 rcases sayL_err ps out h with rfl | rfl <;> decide
end S14
end Go.Proofs.YtkcilmmaggmmoaaDoor
namespace Go.Proofs.YtkcilmmaggmmoaaDoor
section
open Go.RowKit Go.Sort
open Nw N8 Go.ChangeShapes Go.WideShapes
theorem cell_lt {W : World} {p : Addr} {v : Value} (h : W.cell? p = some v) : p.block < W.heap.size := by
 rcases Nat.lt_or_ge p.block W.heap.size with h1 | h1
 ·exact h1
 ·have : W.heap[p.block]? = none := Array.getElem?_eq_none h1
  simp [World.cell?, this] at h
section
end
end
section
open Go.RowKit Go.Sort
open Nw S14
def SayO (R : SR) : Value := match R with
 | .ok t => .tuple #[.string (ba t), .int .i64 0]
 | .err e _ _ => .tuple #[.string ⟨#[]⟩, .int .i64 e]
end
end Go.Proofs.YtkcilmmaggmmoaaDoor
