/- SubEnv -/
import Derived.Test.YtkcilmmaggmmoaaDoorGT20
import Derived.Test.YtkcilmmaggmmoaaDoorGT9
set_option linter.unusedVariables false
set_option linter.unusedSimpArgs false
set_option maxRecDepth 100000
set_option maxHeartbeats 16000000
namespace Go.Proofs.YtkcilmmaggmmoaaDoor
namespace Nw
end Nw
namespace V12
end V12
end Go.Proofs.YtkcilmmaggmmoaaDoor
namespace Go.Proofs.YtkcilmmaggmmoaaDoor
namespace S14
open Nw V12
def EnvS (x : List KV) : Prop := EnvOk x ∧ x.length ≤ 64 ∧ ∀ p ∈ x, p.1.length ≤ 100 ∧ p.2.length ≤ 100
theorem last_mem : ∀ {l : List KV} {k v : L8}, lastV l k = some v → (k, v) ∈ l
 | [], k, v, h => by cases h
 | p :: l, k, v, h => by
  unfold lastV at h
  cases hl : lastV l k with
  | some u =>
   rw [hl] at h
   simp only [] at h
   cases h
   exact List.mem_cons_of_mem _ (last_mem hl)
  | none =>
   rw [hl] at h
   simp only [] at h
   split at h
   ·rename_i hk
    cases h
    rw [← hk]
    exact List.mem_cons_self
   ·cases h
theorem EnvS.val {x : List KV} (h : EnvS x) {k v : L8} (hv : lastV x k = some v) : v.length ≤ 100 := (h.2.2 _ (last_mem hv)).2
theorem of_s {l : List KV} (h : ∀ p ∈ l, p.1.length ≤ 100 ∧ p.2.length ≤ 100) : EnvS (ofV l) := by
 refine ⟨of_ok l, (of_len l).1, fun p hp => ?_⟩
 have hp : p ∈ gath l := List.mem_of_mem_take hp
 unfold gath at hp
 obtain ⟨k, hk, rfl⟩ := List.mem_map.1 hp
 obtain ⟨hv, q, hq, hqk⟩ := mem_keys.1 hk
 refine ⟨by rw [← hqk]; exact (h q hq).1, ?_⟩
 cases hl : lastV l k with
 | none => exact Nat.zero_le _
 | some v => exact (h _ (last_mem hl)).2
theorem last_filter_in {l : List KV} {P : L8 → Bool} : ∀ {k : L8}, P k = true → lastV (l.filter fun p => P p.1) k = lastV l k := by
 intro k hk
 induction l with
 | nil => rfl
 | cons p l ih =>
  by_cases hp : P p.1 = true
  ·rw [List.filter_cons_of_pos (by exact hp)]
   unfold lastV
   rw [ih]
  ·rw [List.filter_cons_of_neg (by exact hp)]
   have hne : p.1 ≠ k := fun e => hp (by rw [e]; exact hk)
   rw [ih]
   conv => rhs; unfold lastV
   cases lastV l k with
   | some v => rfl
   | none => simp only []; rw [if_neg hne]
theorem last_filter_out {l : List KV} {P : L8 → Bool} {k : L8} (hk : P k = false) : lastV (l.filter fun p => P p.1) k = none := by
 refine last_none fun p hp e => ?_
 have := (List.mem_filter.1 hp).2
 rw [e, hk] at this
 cases this
def otherV (ns : List L8) (more a : List KV) : List KV := (more.filter fun p => !decide (p.1 ∈ ns)) ++ a.filter fun p => decide (p.1 ∈ ns)
theorem other_len (ns : List L8) (more a : List KV) : (otherV ns more a).length ≤ more.length + a.length := by
 unfold otherV
 rw [List.length_append]
 have h1 := List.length_filter_le (fun p : KV => !decide (p.1 ∈ ns)) more
 have h2 := List.length_filter_le (fun p : KV => decide (p.1 ∈ ns)) a
 omega
theorem other_mem {ns : List L8} {more a : List KV} {p : KV} (h : p ∈ otherV ns more a) : p ∈ more ∨ p ∈ a := by
 unfold otherV at h
 rcases List.mem_append.1 h with h | h
 ·exact .inl (List.mem_filter.1 h).1
 ·exact .inr (List.mem_filter.1 h).1
theorem other_agree {ns : List L8} {more a : List KV} {k : L8} (hk : k ∈ ns) (hv : isV k = true) (hl : more.length + a.length ≤ 64) : lastV (ofV (otherV ns more a)) k = lastV a k := by
 rw [of_few (Nat.le_trans (other_len _ _ _) hl), gath_last, if_pos hv]
 unfold otherV
 rw [last_app, last_filter_in (P := fun x => decide (x ∈ ns)) (decide_eq_true hk), last_filter_out (P := fun x => !decide (x ∈ ns)) (by rw [decide_eq_true hk]; rfl)]
 cases lastV a k <;> rfl
theorem agree_say {ps : List T13.Pt} {more a : List KV} (hw : T13.WfL 1 ps) (hl : more.length + a.length ≤ 64) : sayL (lastV (ofV (otherV (sortL (T13.namL ps)) more a))) [] ps = sayL (lastV a) [] ps :=
 sayL_agree ps [] fun k hk => other_agree (mem_sortL.2 hk) (T13.namL_ok ps 1 hw k hk) hl
def exT1 : L8 := [36, 123, 65, 125, 45, 36, 123, 66, 58, 45, 36, 65, 125]
def exT2 : L8 := [36, 123, 66, 63, 103, 111, 110, 101, 125]
def exE : List KV := [([65], [120])]
def exP1 : List T13.Pt := [.mk [65] [] 1 [], .mk [] [45] 0 [], .mk [66] [] 2 [.mk [65] [] 1 []]]
def exP2 : List T13.Pt := [.mk [66] [] 5 [.mk [] [103, 111, 110, 101] 0 []]]
theorem ex_prs1 : T13.prsT exT1 = .ok exP1 [] := by kernel_rfl
theorem ex_prs2 : T13.prsT exT2 = .ok exP2 [] := by kernel_rfl
theorem ex_A : lastV exE [65] = some [120] := rfl
theorem ex_B : lastV exE [66] = none := by
 show (if ([65] : L8) = [66] then some ([120] : L8) else none) = none
 rw [if_neg (by decide)]
theorem ex_ok : sayX (lastV exE) exT1 = .ok [120, 45, 120] := by
 unfold sayX
 rw [ex_prs1]
 show sayL (lastV exE) [] exP1 = _
 unfold exP1
 have p1 : sayP (lastV exE) (.mk [65] [] 1 []) = .ok [120] := by
  rw [sayP, if_neg (by decide), if_neg (by rw [ex_A]; simp), if_neg (by simp), if_neg (by decide), ex_A]
  rfl
 have p2 : sayP (lastV exE) (.mk [] [45] 0 []) = .ok [45] := by rw [sayP, if_pos rfl]
 have p3 : sayP (lastV exE) (.mk [66] [] 2 [.mk [65] [] 1 []]) = .ok [120] := by
  rw [sayP, if_neg (by decide), if_pos (.inl ⟨rfl, by rw [ex_B]; simp⟩), sayL, p1]
  simp only []
  rw [if_neg (by decide), sayL]
  rfl
 rw [sayL, p1]
 simp only []
 rw [if_neg (by decide), sayL, p2]
 simp only []
 rw [if_neg (by decide), sayL, p3]
 simp only []
 rw [if_neg (by decide), sayL]
 rfl
theorem ex_bad : ∃ k y, sayX (lastV exE) exT2 = .err 4 k y := by
 refine ⟨[66], T13.txtL [.mk [] [103, 111, 110, 101] 0 []], ?_⟩
 unfold sayX
 rw [ex_prs2]
 show sayL (lastV exE) [] exP2 = _
 unfold exP2
 rw [sayL, sayP, if_neg (by decide), if_neg (by rw [ex_B]; simp), if_pos (.inr ⟨rfl, ex_B⟩)]
end S14
end Go.Proofs.YtkcilmmaggmmoaaDoor
