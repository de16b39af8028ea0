/- SubMath, SubLen, SubNode, SubNames, SubCase, SubWord -/
import Derived.Test.YtkcilmmaggmmoaaGreatDoorNT1
import Derived.Test.YtkcilmmaggmmoaaGreatDoorNT14
import Derived.Test.YtkcilmmaggmmoaaGreatDoorNT22
import Derived.Test.YtkcilmmaggmmoaaGreatDoorNT3
set_option linter.unusedVariables false
set_option linter.unusedSimpArgs false
set_option maxRecDepth 100000
set_option maxHeartbeats 16000000
namespace Go.Proofs.YtkcilmmaggmmoaaGreatDoor
namespace N8
end N8
namespace Nw
end Nw
namespace S14
end S14
namespace T13
end T13
end Go.Proofs.YtkcilmmaggmmoaaGreatDoor
namespace Go.Proofs.YtkcilmmaggmmoaaGreatDoor
namespace S14
open Nw T13
inductive SR where
 | ok (t : L8)
 | err (e : Int) (key why : L8)
abbrev Env := L8 → Option L8
mutual
def sayP (E : Env) : Pt → SR
 | .mk n t o s =>
  if o = 0 then .ok t
  else if (o = 2 ∧ ¬ (∃ v, E n = some v ∧ v ≠ [])) ∨ (o = 3 ∧ E n = none) ∨ (o = 6 ∧ ∃ v, E n = some v ∧ v ≠ []) ∨ (o = 7 ∧ (E n).isSome = true) then sayL E [] s
  else if (o = 4 ∧ ¬ (∃ v, E n = some v ∧ v ≠ [])) ∨ (o = 5 ∧ E n = none) then .err 4 n (txtL s)
  else if 5 < o then .ok []
  else .ok ((E n).getD [])
def sayL (E : Env) (out : L8) : List Pt → SR
 | [] => .ok out
 | p :: ps => match sayP E p with
  | .err e k y => .err e k y
  | .ok t => if 8192 < (out ++ t).length then .err 9 [] [] else sayL E (out ++ t) ps
end
theorem sayL_ok_len {E : Env} : ∀ (ps : List Pt) (out t : L8), out.length ≤ 8192 → sayL E out ps = .ok t → t.length ≤ 8192
 | [], out, t, h, e => by rw [sayL] at e; cases e; exact h
 | p :: ps, out, t, h, e => by
  rw [sayL] at e
  cases hp : sayP E p with
  | err _ _ _ => rw [hp] at e; cases e
  | ok u =>
   rw [hp] at e
   simp only [] at e
   split at e
   ·cases e
   ·exact sayL_ok_len ps _ t (by omega) e
where
 sayL_pre {E : Env} : ∀ (ps : List Pt) (out t : L8), sayL E out ps = .ok t → ∃ x, t = out ++ x
 | [], out, t, h => by rw [sayL] at h; cases h; exact ⟨[], (List.append_nil _).symm⟩
 | p :: ps, out, t, h => by
  rw [sayL] at h
  cases hp : sayP E p with
  | err _ _ _ => rw [hp] at h; cases h
  | ok u =>
   rw [hp] at h
   simp only [] at h
   split at h
   ·cases h
   ·obtain ⟨x, hx⟩ := sayL_pre ps _ _ h
    exact ⟨u ++ x, by rw [hx, List.append_assoc]⟩
end S14
end Go.Proofs.YtkcilmmaggmmoaaGreatDoor
namespace Go.Proofs.YtkcilmmaggmmoaaGreatDoor
namespace S14
open Nw T13
mutual
theorem sayP_err {E : Env} : ∀ (p : Pt) {e : Int} {k y : L8}, sayP E p = .err e k y → e = 4 ∨ e = 9
 | .mk n t o s, e, k, y, h => by
  rw [sayP] at h
  split at h
  ·cases h
  ·split at h
   ·exact sayL_err s [] h
   ·split at h
    ·cases h; exact .inl rfl
    ·split at h <;> cases h
theorem sayL_err {E : Env} : ∀ (ps : List Pt) (out : L8) {e : Int} {k y : L8}, sayL E out ps = .err e k y → e = 4 ∨ e = 9
 | [], out, e, k, y, h => by rw [sayL] at h; cases h
 | p :: ps, out, e, k, y, h => by
  rw [sayL] at h
  cases hp : sayP E p with
  | err e' k' y' => rw [hp] at h; cases h; exact sayP_err p hp
  | ok t =>
   rw [hp] at h
   simp only [] at h
   split at h
   ·cases h; exact .inr rfl
   ·exact sayL_err ps _ h
end
theorem sayP_len {E : Env} (hE : ∀ n v, E n = some v → v.length ≤ 1000000) : ∀ (p : Pt) {t : L8}, (txtP p).length ≤ 1000000 → sayP E p = .ok t → t.length ≤ 1000000
 | .mk n t o s, u, hl, h => by
  rw [sayP] at h
  split at h
  ·rename_i h0
   cases h
   rw [txtP, if_pos h0] at hl
   exact Nat.le_trans (escD_ge t) hl
  ·split at h
   ·exact Nat.le_trans (sayL_ok_len s [] u (Nat.zero_le _) h) (by decide)
   ·split at h
    ·cases h
    ·split at h
     ·cases h; exact Nat.zero_le _
     ·cases h
      cases hn : E n with
      | none => exact Nat.zero_le _
      | some v => exact hE n v hn
theorem txtP_le {ps : List Pt} {j : Nat} (h : j < ps.length) : (txtP (ps[j]'h)).length ≤ (txtL ps).length := by
 have e1 := txtL_take h
 have e2 := txtL_pre ps (j + 1)
 rw [e1, List.length_append] at e2
 omega
theorem txtS_le (n t : L8) (o : Int) (s : List Pt) (h : 1 < o) : (txtL s).length ≤ (txtP (.mk n t o s)).length := by
 rw [txtP, if_neg (by omega)]
 simp only [List.length_cons, List.length_append, if_pos h]
 omega
end S14
end Go.Proofs.YtkcilmmaggmmoaaGreatDoor
namespace Go.Proofs.YtkcilmmaggmmoaaGreatDoor
namespace S14
open Nw
def sayX (E : Env) (s : L8) : SR := match T13.prsT s with
 | .err e => .err e [] []
 | .ok ps _ => sayL E [] ps
inductive NR where
 | ok (d : N8.Nd)
 | err (e : Int)
inductive NRs where
 | ok (ds : List N8.Nd)
 | err (e : Int)
mutual
def sayN (E : Env) : N8.Nd → NR
 | .mk k t ks ds => match (if k = 1 then sayX E t else SR.ok []) with
  | .err e _ _ => .err e
  | .ok x => match sayNs E ds with
   | .err e => .err e
   | .ok r => .ok (.mk k x ks r)
def sayNs (E : Env) : List N8.Nd → NRs
 | [] => .ok []
 | d :: ds => match sayN E d with
  | .err e => .err e
  | .ok d' => match sayNs E ds with
   | .err e => .err e
   | .ok r => .ok (d' :: r)
end
def endN (k : Int) (x : L8) (ks : List L8) : NRs → NR
 | .ok r => .ok (.mk k x ks r)
 | .err e => .err e
def headN (k : Int) (ks : List L8) (r : NRs) : SR → NR
 | .err e _ _ => .err e
 | .ok x => endN k x ks r
theorem sayN_eq (E : Env) (k : Int) (t : L8) (ks : List L8) (ds : List N8.Nd) : sayN E (.mk k t ks ds) = headN k ks (sayNs E ds) (if k = 1 then sayX E t else SR.ok []) := by
 rw [sayN]
 cases (if k = 1 then sayX E t else SR.ok []) with
 | err e a b => rfl
 | ok x => simp only [headN]; cases sayNs E ds <;> rfl
def thenN (a : List N8.Nd) : NRs → NRs
 | .ok r => .ok (a ++ r)
 | .err e => .err e
theorem thenN_step (E : Env) (a : List N8.Nd) (ds : List N8.Nd) (j : Nat) (h : j < ds.length) : thenN a (sayNs E (ds.drop j)) = match sayN E (ds[j]'h) with
  | .err e => .err e
  | .ok d' => thenN (a ++ [d']) (sayNs E (ds.drop (j + 1))) := by
 rw [List.drop_eq_getElem_cons h, sayNs]
 cases sayN E (ds[j]'h) with
 | err e => rfl
 | ok d' =>
  simp only []
  cases sayNs E (ds.drop (j + 1)) with
  | err e => rfl
  | ok r => simp [thenN]
theorem thenN_end (E : Env) (a : List N8.Nd) (ds : List N8.Nd) (j : Nat) (h : ds.length ≤ j) : thenN a (sayNs E (ds.drop j)) = .ok a := by
 rw [List.drop_eq_nil_of_le h, sayNs]
 simp [thenN]
theorem thenN_nil (r : NRs) : thenN [] r = r := by cases r <;> rfl
def namX (s : L8) : List L8 := match T13.prsT s with
 | .err _ => []
 | .ok ps _ => T13.namL ps
def namXs (a : List L8) : List L8 → List L8
 | [] => a
 | t :: ts => match T13.prsT t with
  | .err _ => namXs a ts
  | .ok ps _ => namXs (sortL (a ++ sortL (T13.namL ps))) ts
theorem sayL_ne {E : Env} (ps : List T13.Pt) (out : L8) {e : Int} {k y : L8} (h : sayL E out ps = .err e k y) : e ≠ 0 := by
 rcases sayL_err ps out h with rfl | rfl <;> decide
theorem sayX_ne {E : Env} {s : L8} {e : Int} {k y : L8} (h : sayX E s = .err e k y) : e ≠ 0 := by
 unfold sayX at h
 cases hp : T13.prsT s with
 | err e1 => rw [hp] at h; simp only [] at h; cases h; exact T13.prsT_err hp
 | ok ps r => rw [hp] at h; exact sayL_ne ps [] h
mutual
theorem sayN_ne {E : Env} : ∀ (d : N8.Nd) {e : Int}, sayN E d = .err e → e ≠ 0
 | .mk k t ks ds, e, h => by
  rw [sayN] at h
  split at h
  ·rename_i hx
   cases h
   split at hx
   ·exact sayX_ne hx
   ·cases hx
  ·split at h
   ·rename_i hx
    cases h
    exact sayNs_ne ds hx
   ·cases h
theorem sayNs_ne {E : Env} : ∀ (ds : List N8.Nd) {e : Int}, sayNs E ds = .err e → e ≠ 0
 | [], e, h => by rw [sayNs] at h; cases h
 | d :: ds, e, h => by
  rw [sayNs] at h
  split at h
  ·rename_i hx
   cases h
   exact sayN_ne d hx
  ·split at h
   ·rename_i hx
    cases h
    exact sayNs_ne ds hx
   ·cases h
end
end S14
end Go.Proofs.YtkcilmmaggmmoaaGreatDoor
namespace Go.Proofs.YtkcilmmaggmmoaaGreatDoor
namespace S14
open Nw
def allN (ts : List L8) : List L8 := ts.flatMap namX
theorem namXs_mem : ∀ (ts a : List L8) (x : L8), x ∈ namXs a ts ↔ x ∈ a ∨ x ∈ allN ts
 | [], a, x => by simp [namXs, allN]
 | t :: ts, a, x => by
  have ht : ∀ y, y ∈ allN (t :: ts) ↔ y ∈ namX t ∨ y ∈ allN ts := fun y => by simp [allN]
  rw [ht, namXs]
  unfold namX
  cases T13.prsT t with
  | err e => rw [show namXs a ts = namXs a ts from rfl, namXs_mem ts a x]; simp
  | ok ps _ =>
   show x ∈ namXs (sortL (a ++ sortL (T13.namL ps))) ts ↔ _
   rw [namXs_mem ts, (sortL_facts _).2, List.mem_append, (sortL_facts _).2, or_assoc]
theorem namXs_asc : ∀ (ts a : List L8), Asc a → Asc (namXs a ts)
 | [], a, h => h
 | t :: ts, a, h => by
  rw [namXs]
  cases T13.prsT t with
  | err e => exact namXs_asc ts a h
  | ok ps _ => exact namXs_asc ts _ (sortL_facts _).1
theorem namXs_of (ts l : List L8) (h : ∀ x, x ∈ l ↔ x ∈ allN ts) : namXs [] ts = sortL l :=
 asc_unique (namXs_asc ts [] (by unfold Asc; simp)) (sortL_facts l).1 fun x => by rw [namXs_mem, (sortL_facts l).2, h]; simp
end S14
end Go.Proofs.YtkcilmmaggmmoaaGreatDoor
namespace Go.Proofs.YtkcilmmaggmmoaaGreatDoor
namespace S14
open Nw T13
theorem sayP_0 (E : Env) (n t : L8) (s : List Pt) : sayP E (.mk n t 0 s) = .ok t := by rw [sayP, if_pos rfl]
theorem sayP_1n {E : Env} {n : L8} (h : E n = none) (t : L8) (s : List Pt) : sayP E (.mk n t 1 s) = .ok [] := by rw [sayP]; simp [h]
theorem sayP_1b {E : Env} {n : L8} (h : E n = some []) (t : L8) (s : List Pt) : sayP E (.mk n t 1 s) = .ok [] := by rw [sayP]; simp [h]
theorem sayP_1f {E : Env} {n : L8} {v : L8} (h : E n = some v) (hv : v ≠ []) (t : L8) (s : List Pt) : sayP E (.mk n t 1 s) = .ok v := by rw [sayP]; simp [h, hv]
theorem sayP_2n {E : Env} {n : L8} (h : E n = none) (t : L8) (s : List Pt) : sayP E (.mk n t 2 s) = sayL E [] s := by rw [sayP]; simp [h]
theorem sayP_2b {E : Env} {n : L8} (h : E n = some []) (t : L8) (s : List Pt) : sayP E (.mk n t 2 s) = sayL E [] s := by rw [sayP]; simp [h]
theorem sayP_2f {E : Env} {n : L8} {v : L8} (h : E n = some v) (hv : v ≠ []) (t : L8) (s : List Pt) : sayP E (.mk n t 2 s) = .ok v := by rw [sayP]; simp [h, hv]
theorem sayP_3n {E : Env} {n : L8} (h : E n = none) (t : L8) (s : List Pt) : sayP E (.mk n t 3 s) = sayL E [] s := by rw [sayP]; simp [h]
theorem sayP_3b {E : Env} {n : L8} (h : E n = some []) (t : L8) (s : List Pt) : sayP E (.mk n t 3 s) = .ok [] := by rw [sayP]; simp [h]
theorem sayP_3f {E : Env} {n : L8} {v : L8} (h : E n = some v) (hv : v ≠ []) (t : L8) (s : List Pt) : sayP E (.mk n t 3 s) = .ok v := by rw [sayP]; simp [h, hv]
theorem sayP_4n {E : Env} {n : L8} (h : E n = none) (t : L8) (s : List Pt) : sayP E (.mk n t 4 s) = .err 4 n (txtL s) := by rw [sayP]; simp [h]
theorem sayP_4b {E : Env} {n : L8} (h : E n = some []) (t : L8) (s : List Pt) : sayP E (.mk n t 4 s) = .err 4 n (txtL s) := by rw [sayP]; simp [h]
theorem sayP_4f {E : Env} {n : L8} {v : L8} (h : E n = some v) (hv : v ≠ []) (t : L8) (s : List Pt) : sayP E (.mk n t 4 s) = .ok v := by rw [sayP]; simp [h, hv]
theorem sayP_5n {E : Env} {n : L8} (h : E n = none) (t : L8) (s : List Pt) : sayP E (.mk n t 5 s) = .err 4 n (txtL s) := by rw [sayP]; simp [h]
theorem sayP_5b {E : Env} {n : L8} (h : E n = some []) (t : L8) (s : List Pt) : sayP E (.mk n t 5 s) = .ok [] := by rw [sayP]; simp [h]
theorem sayP_5f {E : Env} {n : L8} {v : L8} (h : E n = some v) (hv : v ≠ []) (t : L8) (s : List Pt) : sayP E (.mk n t 5 s) = .ok v := by rw [sayP]; simp [h, hv]
theorem sayP_6n {E : Env} {n : L8} (h : E n = none) (t : L8) (s : List Pt) : sayP E (.mk n t 6 s) = .ok [] := by rw [sayP]; simp [h]
theorem sayP_6b {E : Env} {n : L8} (h : E n = some []) (t : L8) (s : List Pt) : sayP E (.mk n t 6 s) = .ok [] := by rw [sayP]; simp [h]
theorem sayP_6f {E : Env} {n : L8} {v : L8} (h : E n = some v) (hv : v ≠ []) (t : L8) (s : List Pt) : sayP E (.mk n t 6 s) = sayL E [] s := by rw [sayP]; simp [h, hv]
theorem sayP_7n {E : Env} {n : L8} (h : E n = none) (t : L8) (s : List Pt) : sayP E (.mk n t 7 s) = .ok [] := by rw [sayP]; simp [h]
theorem sayP_7b {E : Env} {n : L8} (h : E n = some []) (t : L8) (s : List Pt) : sayP E (.mk n t 7 s) = sayL E [] s := by rw [sayP]; simp [h]
theorem sayP_7f {E : Env} {n : L8} {v : L8} (h : E n = some v) (hv : v ≠ []) (t : L8) (s : List Pt) : sayP E (.mk n t 7 s) = sayL E [] s := by rw [sayP]; simp [h, hv]
end S14
end Go.Proofs.YtkcilmmaggmmoaaGreatDoor
namespace Go.Proofs.YtkcilmmaggmmoaaGreatDoor
section
open Go.RowKit Go.Sort
open Nw S14
open N8 (Nd)
def SayO (R : SR) : Value := match R with
 | .ok t => .tuple #[.string (ba t), .int .i64 0]
 | .err e _ _ => .tuple #[.string ⟨#[]⟩, .int .i64 e]
mutual
theorem short_texts : ∀ (d : Nd), N8.shortT d = true → ∀ t ∈ N8.textsT d, t.length ≤ 200
 | .mk k t ks ds, h, x, hx => by
  rw [N8.shortT, Bool.and_eq_true, Bool.and_eq_true, decide_eq_true_iff] at h
  rw [N8.textsT] at hx
  rcases List.mem_append.1 hx with hx | hx
  ·split at hx
   ·rw [List.mem_singleton.1 hx]; exact h.1.1
   ·cases hx
  ·exact short_textsL ds h.2 x hx
theorem short_textsL : ∀ (ds : List Nd), N8.shortL ds = true → ∀ t ∈ N8.textsL ds, t.length ≤ 200
 | [], _, x, hx => by rw [N8.textsL] at hx; cases hx
 | d :: ds, h, x, hx => by
  rw [N8.shortL, Bool.and_eq_true] at h
  rw [N8.textsL] at hx
  rcases List.mem_append.1 hx with hx | hx
  ·exact short_texts d h.1 x hx
  ·exact short_textsL ds h.2 x hx
end
theorem small_facts {d : Nd} (h : N8.smallT d 100 = true) : N8.cntT d ≤ 100 ∧ ∀ t ∈ N8.textsT d, t.length ≤ 200 := by
 rw [N8.smallT, Bool.and_eq_true, N8.okT, decide_eq_true_iff] at h
 have h1 := N8.leftT_cnt d 1 100 h.1
 exact ⟨by have := h.1; omega, short_texts d h.2⟩
def GivesNW (R : NR) (w : World) (e : Ending) (w' : World) : Prop := match R with
 | .ok d' => ∃ u0 u1 u2 u3, e = .returned (.tuple #[.agg #[u0, u1, u2, u3], .int .i64 0]) ∧ NdW w' d' u0 u1 u2 u3 ∧ Below w.heap.size w w'
 | .err er => e = .returned (.tuple #[.agg #[.int .i64 0, .string ⟨#[]⟩, .slice none 0 0, .slice none 0 0], .int .i64 er]) ∧ Below w.heap.size w w'
end
end Go.Proofs.YtkcilmmaggmmoaaGreatDoor
