/- SubMath, SubCase -/
import Derived.Test.YtkcilmmaggmmoaaDoorGT8
set_option linter.unusedVariables false
set_option linter.unusedSimpArgs false
set_option maxRecDepth 100000
set_option maxHeartbeats 16000000
namespace Go.Proofs.YtkcilmmaggmmoaaDoor
namespace Nw
end Nw
namespace T13
end T13
end Go.Proofs.YtkcilmmaggmmoaaDoor
namespace Go.Proofs.YtkcilmmaggmmoaaDoor
namespace S14
open Nw T13
inductive SR where
 | ok (t : L8)
 | err (e : Int) (key why : L8)
abbrev Env := L8 → Option L8
mutual
def sayP (E : Env) : Pt → SR
 | .mk n t o s =>
  if o = 0 then .ok t
  else if (o = 2 ∧ ¬ (∃ v, E n = some v ∧ v ≠ [])) ∨ (o = 3 ∧ E n = none) ∨ (o = 6 ∧ ∃ v, E n = some v ∧ v ≠ []) ∨ (o = 7 ∧ (E n).isSome = true) then sayL E [] s
  else if (o = 4 ∧ ¬ (∃ v, E n = some v ∧ v ≠ [])) ∨ (o = 5 ∧ E n = none) then .err 4 n (txtL s)
  else if 5 < o then .ok []
  else .ok ((E n).getD [])
def sayL (E : Env) (out : L8) : List Pt → SR
 | [] => .ok out
 | p :: ps => match sayP E p with
  | .err e k y => .err e k y
  | .ok t => if 8192 < (out ++ t).length then .err 9 [] [] else sayL E (out ++ t) ps
end
mutual
theorem sayP_agree {E F : Env} : ∀ (p : Pt), (∀ k ∈ namP p, E k = F k) → sayP E p = sayP F p
 | .mk n t o s, h => by
  rw [namP] at h
  rw [sayP, sayP]
  by_cases ho : o = 0
  ·rw [if_pos ho, if_pos ho]
  ·rw [if_neg ho, if_neg ho]
   have hn : E n = F n := h n (List.mem_append_left _ (by rw [if_pos ho]; exact List.mem_singleton.2 rfl))
   rw [hn, sayL_agree s [] fun k hk => h k (List.mem_append_right _ hk)]
theorem sayL_agree {E F : Env} : ∀ (ps : List Pt) (out : L8), (∀ k ∈ namL ps, E k = F k) → sayL E out ps = sayL F out ps
 | [], out, _ => by rw [sayL, sayL]
 | p :: ps, out, h => by
  rw [namL] at h
  rw [sayL, sayL, sayP_agree p fun k hk => h k (List.mem_append_left _ hk)]
  cases sayP F p with
  | err e k y => rfl
  | ok t =>
   simp only []
   rw [sayL_agree ps (out ++ t) fun k hk => h k (List.mem_append_right _ hk)]
end
theorem sayL_ok_len {E : Env} : ∀ (ps : List Pt) (out t : L8), out.length ≤ 8192 → sayL E out ps = .ok t → t.length ≤ 8192
 | [], out, t, h, e => by rw [sayL] at e; cases e; exact h
 | p :: ps, out, t, h, e => by
  rw [sayL] at e
  cases hp : sayP E p with
  | err _ _ _ => rw [hp] at e; cases e
  | ok u =>
   rw [hp] at e
   simp only [] at e
   split at e
   ·cases e
   ·exact sayL_ok_len ps _ t (by omega) e
theorem sayL_out {E : Env} : ∀ (ps : List Pt) (a b : L8), (∀ t, sayL E b ps = .ok (b ++ t) → a.length + t.length ≤ 8192 → a.length ≤ 8192 → sayL E a ps = .ok (a ++ t)) ∧
  (∀ t, sayL E b ps = .ok (b ++ t) → 8192 < a.length + t.length → a.length ≤ 8192 → sayL E a ps = .err 9 [] []) ∧
  (∀ e k y, b.length ≤ a.length → sayL E b ps = .err e k y → sayL E a ps = .err e k y ∨ sayL E a ps = .err 9 [] [])
 | [], a, b => by
  refine ⟨fun t h _ _ => ?_, fun t h h2 h3 => ?_, fun e k y _ h => ?_⟩
  ·rw [sayL] at h
   injection h with h
   have : t = [] := by have := congrArg List.length h; rw [List.length_append] at this; exact List.length_eq_zero_iff.1 (by omega)
   rw [sayL, this, List.append_nil]
  ·rw [sayL] at h
   injection h with h
   have := congrArg List.length h
   rw [List.length_append] at this
   omega
  ·rw [sayL] at h; cases h
 | p :: ps, a, b => by
  cases hp : sayP E p with
  | err e k y =>
   refine ⟨fun t h _ _ => ?_, fun t h h2 h3 => ?_, fun e' k' y' _ h => ?_⟩
   ·rw [sayL, hp] at h; cases h
   ·rw [sayL, hp] at h; cases h
   ·rw [sayL, hp] at h ⊢
    exact .inl h
  | ok u =>
   obtain ⟨h1, h2, h3⟩ := sayL_out (E := E) ps (a ++ u) (b ++ u)
   have hpre : ∀ t, sayL E (b ++ u) ps = .ok (b ++ t) → ∃ t', t = u ++ t' := fun t h => by
    obtain ⟨x, hx⟩ := sayL_pre (E := E) ps (b ++ u) _ h
    rw [List.append_assoc] at hx
    exact ⟨x, List.append_cancel_left hx⟩
   refine ⟨fun t h hl ha => ?_, fun t h hl ha => ?_, fun e k y hab h => ?_⟩
   ·rw [sayL, hp] at h ⊢
    simp only [] at h ⊢
    split at h
    ·cases h
    ·obtain ⟨t', rfl⟩ := hpre t h
     rw [List.length_append] at hl
     rw [if_neg (by rw [List.length_append]; omega)]
     rw [← List.append_assoc] at h
     rw [h1 t' h (by rw [List.length_append]; omega) (by rw [List.length_append]; omega), List.append_assoc]
   ·rw [sayL, hp] at h ⊢
    simp only [] at h ⊢
    split at h
    ·cases h
    ·obtain ⟨t', rfl⟩ := hpre t h
     rw [List.length_append] at hl
     by_cases hb : 8192 < (a ++ u).length
     ·rw [if_pos hb]
     ·rw [if_neg hb]
      rw [← List.append_assoc] at h
      exact h2 t' h (by rw [List.length_append]; omega) (by omega)
   ·rw [sayL, hp] at h ⊢
    simp only [] at h ⊢
    by_cases hb : 8192 < (a ++ u).length
    ·rw [if_pos hb]; exact .inr rfl
    ·rw [if_neg hb]
     split at h
     ·rename_i h9
      rw [List.length_append] at hb h9
      omega
     ·exact h3 e k y (by rw [List.length_append, List.length_append]; omega) h
where
 sayL_pre {E : Env} : ∀ (ps : List Pt) (out t : L8), sayL E out ps = .ok t → ∃ x, t = out ++ x
 | [], out, t, h => by rw [sayL] at h; cases h; exact ⟨[], (List.append_nil _).symm⟩
 | p :: ps, out, t, h => by
  rw [sayL] at h
  cases hp : sayP E p with
  | err _ _ _ => rw [hp] at h; cases h
  | ok u =>
   rw [hp] at h
   simp only [] at h
   split at h
   ·cases h
   ·obtain ⟨x, hx⟩ := sayL_pre ps _ _ h
    exact ⟨u ++ x, by rw [hx, List.append_assoc]⟩
end S14
end Go.Proofs.YtkcilmmaggmmoaaDoor
namespace Go.Proofs.YtkcilmmaggmmoaaDoor
namespace S14
open Nw T13
theorem sayP_0 (E : Env) (n t : L8) (s : List Pt) : sayP E (.mk n t 0 s) = .ok t := by rw [sayP, if_pos rfl]
theorem sayP_1n {E : Env} {n : L8} (h : E n = none) (t : L8) (s : List Pt) : sayP E (.mk n t 1 s) = .ok [] := by rw [sayP]; simp [h]
theorem sayP_1b {E : Env} {n : L8} (h : E n = some []) (t : L8) (s : List Pt) : sayP E (.mk n t 1 s) = .ok [] := by rw [sayP]; simp [h]
theorem sayP_1f {E : Env} {n : L8} {v : L8} (h : E n = some v) (hv : v ≠ []) (t : L8) (s : List Pt) : sayP E (.mk n t 1 s) = .ok v := by rw [sayP]; simp [h, hv]
theorem sayP_2n {E : Env} {n : L8} (h : E n = none) (t : L8) (s : List Pt) : sayP E (.mk n t 2 s) = sayL E [] s := by rw [sayP]; simp [h]
theorem sayP_2b {E : Env} {n : L8} (h : E n = some []) (t : L8) (s : List Pt) : sayP E (.mk n t 2 s) = sayL E [] s := by rw [sayP]; simp [h]
theorem sayP_2f {E : Env} {n : L8} {v : L8} (h : E n = some v) (hv : v ≠ []) (t : L8) (s : List Pt) : sayP E (.mk n t 2 s) = .ok v := by rw [sayP]; simp [h, hv]
theorem sayP_3n {E : Env} {n : L8} (h : E n = none) (t : L8) (s : List Pt) : sayP E (.mk n t 3 s) = sayL E [] s := by rw [sayP]; simp [h]
theorem sayP_3b {E : Env} {n : L8} (h : E n = some []) (t : L8) (s : List Pt) : sayP E (.mk n t 3 s) = .ok [] := by rw [sayP]; simp [h]
theorem sayP_3f {E : Env} {n : L8} {v : L8} (h : E n = some v) (hv : v ≠ []) (t : L8) (s : List Pt) : sayP E (.mk n t 3 s) = .ok v := by rw [sayP]; simp [h, hv]
theorem sayP_4n {E : Env} {n : L8} (h : E n = none) (t : L8) (s : List Pt) : sayP E (.mk n t 4 s) = .err 4 n (txtL s) := by rw [sayP]; simp [h]
theorem sayP_4b {E : Env} {n : L8} (h : E n = some []) (t : L8) (s : List Pt) : sayP E (.mk n t 4 s) = .err 4 n (txtL s) := by rw [sayP]; simp [h]
theorem sayP_4f {E : Env} {n : L8} {v : L8} (h : E n = some v) (hv : v ≠ []) (t : L8) (s : List Pt) : sayP E (.mk n t 4 s) = .ok v := by rw [sayP]; simp [h, hv]
theorem sayP_5n {E : Env} {n : L8} (h : E n = none) (t : L8) (s : List Pt) : sayP E (.mk n t 5 s) = .err 4 n (txtL s) := by rw [sayP]; simp [h]
theorem sayP_5b {E : Env} {n : L8} (h : E n = some []) (t : L8) (s : List Pt) : sayP E (.mk n t 5 s) = .ok [] := by rw [sayP]; simp [h]
theorem sayP_5f {E : Env} {n : L8} {v : L8} (h : E n = some v) (hv : v ≠ []) (t : L8) (s : List Pt) : sayP E (.mk n t 5 s) = .ok v := by rw [sayP]; simp [h, hv]
theorem sayP_6n {E : Env} {n : L8} (h : E n = none) (t : L8) (s : List Pt) : sayP E (.mk n t 6 s) = .ok [] := by rw [sayP]; simp [h]
theorem sayP_6b {E : Env} {n : L8} (h : E n = some []) (t : L8) (s : List Pt) : sayP E (.mk n t 6 s) = .ok [] := by rw [sayP]; simp [h]
theorem sayP_6f {E : Env} {n : L8} {v : L8} (h : E n = some v) (hv : v ≠ []) (t : L8) (s : List Pt) : sayP E (.mk n t 6 s) = sayL E [] s := by rw [sayP]; simp [h, hv]
theorem sayP_7n {E : Env} {n : L8} (h : E n = none) (t : L8) (s : List Pt) : sayP E (.mk n t 7 s) = .ok [] := by rw [sayP]; simp [h]
theorem sayP_7b {E : Env} {n : L8} (h : E n = some []) (t : L8) (s : List Pt) : sayP E (.mk n t 7 s) = sayL E [] s := by rw [sayP]; simp [h]
theorem sayP_7f {E : Env} {n : L8} {v : L8} (h : E n = some v) (hv : v ≠ []) (t : L8) (s : List Pt) : sayP E (.mk n t 7 s) = sayL E [] s := by rw [sayP]; simp [h, hv]
end S14
end Go.Proofs.YtkcilmmaggmmoaaDoor
