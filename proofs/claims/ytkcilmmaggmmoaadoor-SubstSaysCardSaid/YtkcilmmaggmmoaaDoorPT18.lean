/- SubEnv -/
import Derived.Test.YtkcilmmaggmmoaaDoorPT14
import Derived.Test.YtkcilmmaggmmoaaDoorPT3
set_option linter.unusedVariables false
set_option linter.unusedSimpArgs false
set_option maxRecDepth 100000
set_option maxHeartbeats 16000000
namespace Go.Proofs.YtkcilmmaggmmoaaDoor
namespace Nw
end Nw
namespace V12
end V12
end Go.Proofs.YtkcilmmaggmmoaaDoor
namespace Go.Proofs.YtkcilmmaggmmoaaDoor
namespace S14
open Nw V12
def EnvS (x : List KV) : Prop := EnvOk x ∧ x.length ≤ 64 ∧ ∀ p ∈ x, p.1.length ≤ 100 ∧ p.2.length ≤ 100
theorem last_mem : ∀ {l : List KV} {k v : L8}, lastV l k = some v → (k, v) ∈ l
 | [], k, v, h => by cases h
 | p :: l, k, v, h => by
  unfold lastV at h
  cases hl : lastV l k with
  | some u =>
   rw [hl] at h
   simp only [] at h
   cases h
   exact List.mem_cons_of_mem _ (last_mem hl)
  | none =>
   rw [hl] at h
   simp only [] at h
   split at h
   ·rename_i hk
    cases h
    rw [← hk]
    exact List.mem_cons_self
   ·cases h
theorem EnvS.val {x : List KV} (h : EnvS x) {k v : L8} (hv : lastV x k = some v) : v.length ≤ 100 := (h.2.2 _ (last_mem hv)).2
theorem of_s {l : List KV} (h : ∀ p ∈ l, p.1.length ≤ 100 ∧ p.2.length ≤ 100) : EnvS (ofV l) := by
 refine ⟨of_ok l, (of_len l).1, fun p hp => ?_⟩
 have hp : p ∈ gath l := List.mem_of_mem_take hp
 unfold gath at hp
 obtain ⟨k, hk, rfl⟩ := List.mem_map.1 hp
 obtain ⟨hv, q, hq, hqk⟩ := mem_keys.1 hk
 refine ⟨by rw [← hqk]; exact (h q hq).1, ?_⟩
 cases hl : lastV l k with
 | none => exact Nat.zero_le _
 | some v => exact (h _ (last_mem hl)).2
def exT1 : L8 := [36, 123, 65, 125, 45, 36, 123, 66, 58, 45, 36, 65, 125]
def exT2 : L8 := [36, 123, 66, 63, 103, 111, 110, 101, 125]
def exE : List KV := [([65], [120])]
def exP1 : List T13.Pt := [.mk [65] [] 1 [], .mk [] [45] 0 [], .mk [66] [] 2 [.mk [65] [] 1 []]]
def exP2 : List T13.Pt := [.mk [66] [] 5 [.mk [] [103, 111, 110, 101] 0 []]]
theorem ex_prs1 : T13.prsT exT1 = .ok exP1 [] := by kernel_rfl
theorem ex_prs2 : T13.prsT exT2 = .ok exP2 [] := by kernel_rfl
theorem ex_A : lastV exE [65] = some [120] := rfl
theorem ex_B : lastV exE [66] = none := by
 show (if ([65] : L8) = [66] then some ([120] : L8) else none) = none
 rw [if_neg (by decide)]
theorem ex_ok : sayX (lastV exE) exT1 = .ok [120, 45, 120] := by
 unfold sayX
 rw [ex_prs1]
 show sayL (lastV exE) [] exP1 = _
 unfold exP1
 have p1 : sayP (lastV exE) (.mk [65] [] 1 []) = .ok [120] := by
  rw [sayP, if_neg (by decide), if_neg (by rw [ex_A]; simp), if_neg (by simp), if_neg (by decide), ex_A]
  rfl
 have p2 : sayP (lastV exE) (.mk [] [45] 0 []) = .ok [45] := by rw [sayP, if_pos rfl]
 have p3 : sayP (lastV exE) (.mk [66] [] 2 [.mk [65] [] 1 []]) = .ok [120] := by
  rw [sayP, if_neg (by decide), if_pos (.inl ⟨rfl, by rw [ex_B]; simp⟩), sayL, p1]
  simp only []
  rw [if_neg (by decide), sayL]
  rfl
 rw [sayL, p1]
 simp only []
 rw [if_neg (by decide), sayL, p2]
 simp only []
 rw [if_neg (by decide), sayL, p3]
 simp only []
 rw [if_neg (by decide), sayL]
 rfl
theorem ex_bad : ∃ k y, sayX (lastV exE) exT2 = .err 4 k y := by
 refine ⟨[66], T13.txtL [.mk [] [103, 111, 110, 101] 0 []], ?_⟩
 unfold sayX
 rw [ex_prs2]
 show sayL (lastV exE) [] exP2 = _
 unfold exP2
 rw [sayL, sayP, if_neg (by decide), if_neg (by rw [ex_B]; simp), if_pos (.inr ⟨rfl, ex_B⟩)]
mutual
theorem sayP_key {E : Env} : ∀ (p : T13.Pt) (d : Nat) {e : Int} {k y : L8}, T13.WfP d p → sayP E p = .err e k y → (e = 4 ∧ k ≠ []) ∨ (e = 9 ∧ k = [] ∧ y = [])
 | .mk n t o s, d, e, k, y, hw, h => by
  rw [sayP] at h
  rw [T13.WfP] at hw
  split at h
  ·cases h
  ·split at h
   ·rcases hw with hw | hw | hw
    ·rw [hw.2.2.2.1, sayL] at h; cases h
    ·rw [hw.2.2.2.1, sayL] at h; cases h
    ·exact sayL_key s [] (d + 1) hw.2.2.2.2.2.1 h
   ·split at h
    ·rename_i h9
     cases h
     refine .inl ⟨rfl, ?_⟩
     rcases hw with hw | hw | hw
     ·rcases h9 with h9 | h9
      ·have := h9.1; omega
      ·have := h9.1; omega
     ·rcases h9 with h9 | h9
      ·have := h9.1; omega
      ·have := h9.1; omega
     ·exact List.length_pos_iff.1 (T13.isN_v2 hw.2.2.1).1
    ·split at h <;> cases h
theorem sayL_key {E : Env} : ∀ (ps : List T13.Pt) (out : L8) (d : Nat) {e : Int} {k y : L8}, T13.WfL d ps → sayL E out ps = .err e k y → (e = 4 ∧ k ≠ []) ∨ (e = 9 ∧ k = [] ∧ y = [])
 | [], out, d, e, k, y, _, h => by rw [sayL] at h; cases h
 | p :: ps, out, d, e, k, y, hw, h => by
  rw [T13.WfL] at hw
  rw [sayL] at h
  cases hp : sayP E p with
  | err e' k' y' => rw [hp] at h; simp only [] at h; cases h; exact sayP_key p d hw.1 hp
  | ok t =>
   rw [hp] at h
   simp only [] at h
   split at h
   ·cases h; exact .inr ⟨rfl, rfl, rfl⟩
   ·exact sayL_key ps _ d hw.2 h
end
end S14
end Go.Proofs.YtkcilmmaggmmoaaDoor
