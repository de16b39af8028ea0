/- SubMath, SubCase, SubLen, SubNode, SubWord -/
import Derived.Laws.OwnMore
import Derived.SliceStrings
import Derived.Test.YtkcilmmaggmmoaaDoorPT13
import Derived.Test.YtkcilmmaggmmoaaDoorPT2
import Derived.Test.YtkcilmmaggmmoaaDoorPT4
import Derived.Test.YtkcilmmaggmmoaaDoorPT7
set_option linter.unusedVariables false
set_option linter.unusedSimpArgs false
set_option maxRecDepth 100000
set_option maxHeartbeats 16000000
namespace Go.Proofs.YtkcilmmaggmmoaaDoor
namespace Nw
end Nw
namespace S14
end S14
namespace T13
end T13
end Go.Proofs.YtkcilmmaggmmoaaDoor
namespace Go.Proofs.YtkcilmmaggmmoaaDoor
namespace S14
open Nw T13
inductive SR where
 | ok (t : L8)
 | err (e : Int) (key why : L8)
abbrev Env := L8 → Option L8
mutual
def sayP (E : Env) : Pt → SR
 | .mk n t o s =>
  if o = 0 then .ok t
  else if (o = 2 ∧ ¬ (∃ v, E n = some v ∧ v ≠ [])) ∨ (o = 3 ∧ E n = none) ∨ (o = 6 ∧ ∃ v, E n = some v ∧ v ≠ []) ∨ (o = 7 ∧ (E n).isSome = true) then sayL E [] s
  else if (o = 4 ∧ ¬ (∃ v, E n = some v ∧ v ≠ [])) ∨ (o = 5 ∧ E n = none) then .err 4 n (txtL s)
  else if 5 < o then .ok []
  else .ok ((E n).getD [])
def sayL (E : Env) (out : L8) : List Pt → SR
 | [] => .ok out
 | p :: ps => match sayP E p with
  | .err e k y => .err e k y
  | .ok t => if 8192 < (out ++ t).length then .err 9 [] [] else sayL E (out ++ t) ps
end
theorem sayL_ok_len {E : Env} : ∀ (ps : List Pt) (out t : L8), out.length ≤ 8192 → sayL E out ps = .ok t → t.length ≤ 8192
 | [], out, t, h, e => by rw [sayL] at e; cases e; exact h
 | p :: ps, out, t, h, e => by
  rw [sayL] at e
  cases hp : sayP E p with
  | err _ _ _ => rw [hp] at e; cases e
  | ok u =>
   rw [hp] at e
   simp only [] at e
   split at e
   ·cases e
   ·exact sayL_ok_len ps _ t (by omega) e
where
 sayL_pre {E : Env} : ∀ (ps : List Pt) (out t : L8), sayL E out ps = .ok t → ∃ x, t = out ++ x
 | [], out, t, h => by rw [sayL] at h; cases h; exact ⟨[], (List.append_nil _).symm⟩
 | p :: ps, out, t, h => by
  rw [sayL] at h
  cases hp : sayP E p with
  | err _ _ _ => rw [hp] at h; cases h
  | ok u =>
   rw [hp] at h
   simp only [] at h
   split at h
   ·cases h
   ·obtain ⟨x, hx⟩ := sayL_pre ps _ _ h
    exact ⟨u ++ x, by rw [hx, List.append_assoc]⟩
end S14
end Go.Proofs.YtkcilmmaggmmoaaDoor
namespace Go.Proofs.YtkcilmmaggmmoaaDoor
namespace S14
open Nw T13
theorem sayP_0 (E : Env) (n t : L8) (s : List Pt) : sayP E (.mk n t 0 s) = .ok t := by rw [sayP, if_pos rfl]
theorem sayP_1n {E : Env} {n : L8} (h : E n = none) (t : L8) (s : List Pt) : sayP E (.mk n t 1 s) = .ok [] := by rw [sayP]; simp [h]
theorem sayP_1b {E : Env} {n : L8} (h : E n = some []) (t : L8) (s : List Pt) : sayP E (.mk n t 1 s) = .ok [] := by rw [sayP]; simp [h]
theorem sayP_1f {E : Env} {n : L8} {v : L8} (h : E n = some v) (hv : v ≠ []) (t : L8) (s : List Pt) : sayP E (.mk n t 1 s) = .ok v := by rw [sayP]; simp [h, hv]
theorem sayP_2n {E : Env} {n : L8} (h : E n = none) (t : L8) (s : List Pt) : sayP E (.mk n t 2 s) = sayL E [] s := by rw [sayP]; simp [h]
theorem sayP_2b {E : Env} {n : L8} (h : E n = some []) (t : L8) (s : List Pt) : sayP E (.mk n t 2 s) = sayL E [] s := by rw [sayP]; simp [h]
theorem sayP_2f {E : Env} {n : L8} {v : L8} (h : E n = some v) (hv : v ≠ []) (t : L8) (s : List Pt) : sayP E (.mk n t 2 s) = .ok v := by rw [sayP]; simp [h, hv]
theorem sayP_3n {E : Env} {n : L8} (h : E n = none) (t : L8) (s : List Pt) : sayP E (.mk n t 3 s) = sayL E [] s := by rw [sayP]; simp [h]
theorem sayP_3b {E : Env} {n : L8} (h : E n = some []) (t : L8) (s : List Pt) : sayP E (.mk n t 3 s) = .ok [] := by rw [sayP]; simp [h]
theorem sayP_3f {E : Env} {n : L8} {v : L8} (h : E n = some v) (hv : v ≠ []) (t : L8) (s : List Pt) : sayP E (.mk n t 3 s) = .ok v := by rw [sayP]; simp [h, hv]
theorem sayP_4n {E : Env} {n : L8} (h : E n = none) (t : L8) (s : List Pt) : sayP E (.mk n t 4 s) = .err 4 n (txtL s) := by rw [sayP]; simp [h]
theorem sayP_4b {E : Env} {n : L8} (h : E n = some []) (t : L8) (s : List Pt) : sayP E (.mk n t 4 s) = .err 4 n (txtL s) := by rw [sayP]; simp [h]
theorem sayP_4f {E : Env} {n : L8} {v : L8} (h : E n = some v) (hv : v ≠ []) (t : L8) (s : List Pt) : sayP E (.mk n t 4 s) = .ok v := by rw [sayP]; simp [h, hv]
theorem sayP_5n {E : Env} {n : L8} (h : E n = none) (t : L8) (s : List Pt) : sayP E (.mk n t 5 s) = .err 4 n (txtL s) := by rw [sayP]; simp [h]
theorem sayP_5b {E : Env} {n : L8} (h : E n = some []) (t : L8) (s : List Pt) : sayP E (.mk n t 5 s) = .ok [] := by rw [sayP]; simp [h]
theorem sayP_5f {E : Env} {n : L8} {v : L8} (h : E n = some v) (hv : v ≠ []) (t : L8) (s : List Pt) : sayP E (.mk n t 5 s) = .ok v := by rw [sayP]; simp [h, hv]
theorem sayP_6n {E : Env} {n : L8} (h : E n = none) (t : L8) (s : List Pt) : sayP E (.mk n t 6 s) = .ok [] := by rw [sayP]; simp [h]
theorem sayP_6b {E : Env} {n : L8} (h : E n = some []) (t : L8) (s : List Pt) : sayP E (.mk n t 6 s) = .ok [] := by rw [sayP]; simp [h]
theorem sayP_6f {E : Env} {n : L8} {v : L8} (h : E n = some v) (hv : v ≠ []) (t : L8) (s : List Pt) : sayP E (.mk n t 6 s) = sayL E [] s := by rw [sayP]; simp [h, hv]
theorem sayP_7n {E : Env} {n : L8} (h : E n = none) (t : L8) (s : List Pt) : sayP E (.mk n t 7 s) = .ok [] := by rw [sayP]; simp [h]
theorem sayP_7b {E : Env} {n : L8} (h : E n = some []) (t : L8) (s : List Pt) : sayP E (.mk n t 7 s) = sayL E [] s := by rw [sayP]; simp [h]
theorem sayP_7f {E : Env} {n : L8} {v : L8} (h : E n = some v) (hv : v ≠ []) (t : L8) (s : List Pt) : sayP E (.mk n t 7 s) = sayL E [] s := by rw [sayP]; simp [h, hv]
end S14
end Go.Proofs.YtkcilmmaggmmoaaDoor
namespace Go.Proofs.YtkcilmmaggmmoaaDoor
namespace S14
open Nw T13
mutual
theorem sayP_err {E : Env} : ∀ (p : Pt) {e : Int} {k y : L8}, sayP E p = .err e k y → e = 4 ∨ e = 9
 | .mk n t o s, e, k, y, h => by
  rw [sayP] at h
  split at h
  ·cases h
  ·split at h
   ·exact sayL_err s [] h
   ·split at h
    ·cases h; exact .inl rfl
    ·split at h <;> cases h
theorem sayL_err {E : Env} : ∀ (ps : List Pt) (out : L8) {e : Int} {k y : L8}, sayL E out ps = .err e k y → e = 4 ∨ e = 9
 | [], out, e, k, y, h => by rw [sayL] at h; cases h
 | p :: ps, out, e, k, y, h => by
  rw [sayL] at h
  cases hp : sayP E p with
  | err e' k' y' => rw [hp] at h; cases h; exact sayP_err p hp
  | ok t =>
   rw [hp] at h
   simp only [] at h
   split at h
   ·cases h; exact .inr rfl
   ·exact sayL_err ps _ h
end
theorem sayP_len {E : Env} (hE : ∀ n v, E n = some v → v.length ≤ 1000000) : ∀ (p : Pt) {t : L8}, (txtP p).length ≤ 1000000 → sayP E p = .ok t → t.length ≤ 1000000
 | .mk n t o s, u, hl, h => by
  rw [sayP] at h
  split at h
  ·rename_i h0
   cases h
   rw [txtP, if_pos h0] at hl
   exact Nat.le_trans (escD_ge t) hl
  ·split at h
   ·exact Nat.le_trans (sayL_ok_len s [] u (Nat.zero_le _) h) (by decide)
   ·split at h
    ·cases h
    ·split at h
     ·cases h; exact Nat.zero_le _
     ·cases h
      cases hn : E n with
      | none => exact Nat.zero_le _
      | some v => exact hE n v hn
theorem txtP_le {ps : List Pt} {j : Nat} (h : j < ps.length) : (txtP (ps[j]'h)).length ≤ (txtL ps).length := by
 have e1 := txtL_take h
 have e2 := txtL_pre ps (j + 1)
 rw [e1, List.length_append] at e2
 omega
theorem txtS_le (n t : L8) (o : Int) (s : List Pt) (h : 1 < o) : (txtL s).length ≤ (txtP (.mk n t o s)).length := by
 rw [txtP, if_neg (by omega)]
 simp only [List.length_cons, List.length_append, if_pos h]
 omega
end S14
end Go.Proofs.YtkcilmmaggmmoaaDoor
namespace Go.Proofs.YtkcilmmaggmmoaaDoor
namespace S14
open Nw
def sayX (E : Env) (s : L8) : SR := match T13.prsT s with
 | .err e => .err e [] []
 | .ok ps _ => sayL E [] ps
end S14
end Go.Proofs.YtkcilmmaggmmoaaDoor
namespace Go.Proofs.YtkcilmmaggmmoaaDoor
section
open Go.RowKit Go.Sort
open Nw S14
def SayO (R : SR) : Value := match R with
 | .ok t => .tuple #[.string (ba t), .int .i64 0]
 | .err e _ _ => .tuple #[.string ⟨#[]⟩, .int .i64 e]
def NeedO (R : SR) : Value := match R with
 | .ok _ => .tuple #[.string ⟨#[]⟩, .string ⟨#[]⟩]
 | .err _ k y => .tuple #[.string (ba k), .string (ba y)]
end
end Go.Proofs.YtkcilmmaggmmoaaDoor
