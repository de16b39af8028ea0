/- EnvMap -/
import Derived.Maps.OwnOps
import Derived.Maps.OwnSet
import Derived.Sort.KeysCollected
import Derived.Test.YtgdejjkiiaodkaaGreatDoorGT7
set_option linter.unusedVariables false
set_option linter.unusedSimpArgs false
set_option maxRecDepth 100000
set_option maxHeartbeats 16000000
namespace Go.Proofs.YtgdejjkiiaodkaaGreatDoor
section
open Go.RowKit Go.Sort Go.Maps Go.WideShapes
open Nw V12
def varD (p : KV) : DataW Unit := .agg [.lit (.string p.1), .lit (.string p.2)]
def mapD (l : List KV) : DataW Unit := l.foldl (fun D p => D.put (.string p.1) (varD p)) (.map [])
theorem mapD_snoc (l : List KV) (p : KV) : mapD (l ++ [p]) = (mapD l).put (.string p.1) (varD p) := by unfold mapD; rw [List.foldl_append]; rfl
theorem snoc_ind {P : List KV → Prop} (h0 : P []) (h1 : ∀ l p, P l → P (l ++ [p])) (l : List KV) : P l := by
 have key : ∀ n, ∀ l : List KV, l.length = n → P l := by
  intro n
  induction n with
  | zero => intro l hl; rw [List.length_eq_zero_iff.1 hl]; exact h0
  | succ n ih =>
   intro l hl
   have hne : l ≠ [] := fun e => by rw [e] at hl; cases hl
   rw [← List.dropLast_concat_getLast hne]
   exact h1 _ _ (ih _ (by rw [List.length_dropLast]; omega))
 exact key _ l rfl
theorem isk (x : L8) : WideAt.IsKeyLit (.string x) := trivial
theorem mapD_tidy (l : List KV) : Tidy (mapD l) := snoc_ind (P := fun l => Tidy (mapD l)) tidy_empty (fun l p h => by rw [mapD_snoc]; exact h.put (isk _) _) l
theorem lit_ne {x y : L8} (h : x ≠ y) : (Lit.string x) ≠ .string y := fun e => h (by injection e)
theorem mapD_at (l : List KV) (k : L8) (z : DataW Unit) : (mapD l).atKey (.string k) z = match lastV l k with | some v => varD (k, v) | none => z := by
 refine snoc_ind (P := fun l => (mapD l).atKey (.string k) z = match lastV l k with | some v => varD (k, v) | none => z) ?_ ?_ l
 ·rfl
 ·intro l p ih
  rw [mapD_snoc, last_app]
  by_cases hk : p.1 = k
  ·subst hk
   rw [atKey_put_same (mapD_tidy l).isMap (isk _)]
   have e : lastV [p] p.1 = some p.2 := by show (if p.1 = p.1 then some p.2 else none) = _; rw [if_pos rfl]
   rw [e]
  ·rw [atKey_put_other (lit_ne fun e => hk e.symm), ih]
   have e : lastV [p] k = none := by show (if p.1 = k then some p.2 else none) = _; rw [if_neg hk]
   rw [e]
theorem mapD_has (l : List KV) (k : L8) : has (mapD l) (.string k) = (lastV l k).isSome := by
 refine snoc_ind (P := fun l => has (mapD l) (.string k) = (lastV l k).isSome) ?_ ?_ l
 ·rfl
 ·intro l p ih
  rw [mapD_snoc, last_app]
  by_cases hk : p.1 = k
  ·subst hk
   rw [has_put_same (mapD_tidy l).isMap (isk _)]
   have e : lastV [p] p.1 = some p.2 := by show (if p.1 = p.1 then some p.2 else none) = _; rw [if_pos rfl]
   rw [e]; rfl
  ·rw [has_put_other (lit_ne fun e => hk e.symm), ih]
   have e : lastV [p] k = none := by show (if p.1 = k then some p.2 else none) = _; rw [if_neg hk]
   rw [e]
def okV (l : List KV) : List KV := l.filter fun p => isV p.1
theorem okV_last (l : List KV) (k : L8) : lastV (okV l) k = if isV k then lastV l k else none := by
 induction l with
 | nil => cases isV k <;> rfl
 | cons p l ih =>
  unfold okV at ih ⊢
  rw [List.filter_cons]
  by_cases hp : isV p.1 = true
  ·rw [if_pos hp]
   show (match lastV (l.filter fun p => isV p.1) k with | some v => some v | none => if p.1 = k then some p.2 else none) = if isV k then (match lastV l k with | some v => some v | none => if p.1 = k then some p.2 else none) else none
   rw [ih]
   by_cases hk : isV k = true
   ·rw [if_pos hk, if_pos hk]
   ·rw [if_neg hk, if_neg hk]
    have : p.1 ≠ k := fun e => hk (by rw [← e]; exact hp)
    simp [this]
  ·rw [if_neg hp, ih]
   by_cases hk : isV k = true
   ·rw [if_pos hk, if_pos hk]
    show _ = (match lastV l k with | some v => some v | none => if p.1 = k then some p.2 else none)
    have : p.1 ≠ k := fun e => hp (by rw [e]; exact hk)
    rw [if_neg this]
    cases lastV l k <;> rfl
   ·rw [if_neg hk, if_neg hk]
theorem okV_has {l : List KV} {k : L8} : has (mapD (okV l)) (.string k) = true ↔ k ∈ keysV l := by
 rw [mapD_has, okV_last, mem_keys]
 by_cases hk : isV k = true
 ·rw [if_pos hk, last_iff]; exact ⟨fun h => ⟨hk, h⟩, fun h => h.2⟩
 ·rw [if_neg hk]; exact ⟨fun h => (by cases h), fun h => absurd h.1 hk⟩
theorem keys_sorted {l : List KV} {ss : List L8} (h : ss.Perm (strKeys (mapD (okV l)))) (hs : ∀ p, ∀ es, mapD (okV l) = .map es → p ∈ es → ∃ x, p.1 = .string x) : ss.mergeSort leB = keysV l := by
 obtain ⟨es, he, hp⟩ := mapD_tidy (okV l)
 have hnd : (strKeys (mapD (okV l))).Nodup := by
  rw [he]
  show (es.map fun p => strOf p.1).Nodup
  refine List.pairwise_map.2 (hp.imp_of_mem fun {p q} hp' hq' hne e => hne ?_)
  obtain ⟨a, ha⟩ := hs p es he hp'
  obtain ⟨b, hb⟩ := hs q es he hq'
  rw [ha, hb] at e ⊢
  exact congrArg _ e
 have hm : ∀ x, x ∈ strKeys (mapD (okV l)) ↔ x ∈ keysV l := by
  intro x
  rw [← okV_has, he, has_eq, List.any_eq_true]
  show x ∈ es.map (fun p => strOf p.1) ↔ _
  rw [List.mem_map]
  constructor
  ·rintro ⟨p, hp', rfl⟩
   obtain ⟨a, ha⟩ := hs p es he hp'
   exact ⟨p, hp', by rw [ha]; exact WideAt.sameKey_self (isk _)⟩
  ·rintro ⟨p, hp', e⟩
   have := WideAt.sameKey_eq e
   exact ⟨p, hp', by rw [this]; rfl⟩
 have hperm := List.mergeSort_perm ss leB
 have hasc : Asc (ss.mergeSort leB) := by
  have h1 : (ss.mergeSort leB).Nodup := (hperm.trans h).symm.nodup hnd
  have h2 := ms_sorted ss
  refine List.Pairwise.imp₂ (R := (· ≤ ·)) (S := (· ≠ ·)) ?_ h2 h1
  intro a b hle hne
  exact Classical.byContradiction fun h => hne (List.le_antisymm hle (List.not_lt.1 h))
 refine asc_unique hasc (sortL_asc _) fun x => ?_
 rw [hperm.mem_iff, h.mem_iff]
 exact hm x
def varR : Value → Option (DataW Unit × List MemPlace)
 | .agg cs => match cs.toList with
  | [.string a, .string b] => some (varD (a.data.toList, b.data.toList), [])
  | _ => none
 | _ => none
theorem varR_mk (p : KV) : varR (.agg #[.string (ba p.1), .string (ba p.2)]) = some (varD p, []) := by
 show some (varD ((ba p.1).data.toList, (ba p.2).data.toList), []) = _
 rw [ba_data, ba_data]
theorem varR_inv {v : Value} {p : KV} {ps : List MemPlace} (h : varR v = some (varD p, ps)) : v = .agg #[.string (ba p.1), .string (ba p.2)] := by
 unfold varR at h
 split at h
 ·rename_i cs
  split at h
  ·rename_i a b e
   injection h with h
   injection h with h1 _
   unfold varD at h1
   simp only [DataW.agg.injEq, List.cons.injEq, DataW.lit.injEq, Lit.string.injEq, and_true] at h1
   rw [← h1.1, ← h1.2, ba_of, ba_of, ← Array.toArray_toList (xs := cs), e]
  ·cases h
 ·cases h
theorem ba_size' (x : L8) : (ba x).size = x.length := by simp [ba, ByteArray.size]
theorem lawS : Keyed Tryz.prog 9 := string_keyed Tryz.underlying9
theorem zeroV (w : World) : (zeroValue 38).run Tryz.prog w = .ok (.agg #[.string ⟨#[]⟩, .string ⟨#[]⟩]) w := by kernel_rfl
def MapV (w : World) (b n : Nat) (l : List KV) : Prop := w.ownsMap Tryz.prog 9 varR b n (mapD l)
theorem MapV.below {w w' : World} {b n : Nat} {l : List KV} (h : MapV w b n l) (hb : Below w.heap.size w w') : MapV w' b n l := by
 have hlt := World.ownsMap.lt h
 obtain ⟨es, clock, h1, h2⟩ := h
 exact ⟨es, clock, (hb.block b hlt).trans h1, h2⟩
theorem bcellM {W w1 : World} (hb : Below W.heap.size W w1) : (∀ b o, b < W.heap.size → w1.cell? ⟨b, o, none⟩ = W.cell? ⟨b, o, none⟩) ∧ (∀ b o, b < W.heap.size → w1.frozen? ⟨b, o, none⟩ = W.frozen? ⟨b, o, none⟩) :=
 ⟨fun b o h => hb.cell (p := ⟨b, o, none⟩) h, fun b o h => hb.frozen (p := ⟨b, o, none⟩) h⟩
theorem key_ok {k : L8} (hl : k.length ≤ maxLen) : keyOf Tryz.prog 9 (.string (ba k)) = some (.string k) := by
 have := Go.WideMaps.keyOf_string_mk (P := Tryz.prog) Tryz.underlying9 (s := ba k) (by rw [ba_size']; exact hl)
 rwa [ba_data] at this
theorem MapV.look {w : World} {b n : Nat} {l : List KV} (h : MapV w b n l) {k v : L8} (hk : lastV l k = some v) (hl : k.length ≤ maxLen) :
  (Instr.lookup 43 (.map (some b)) (.string (ba k)) false).run Tryz.prog w = .ok (.agg #[.string (ba k), .string (ba v)]) w := by
 have hkey := key_ok hl
 obtain ⟨u, ps, hrun, hr⟩ := World.ownsMap.lookup h lawS Tryz.underlying43 (zeroV w) (zd := varD ([], [])) (zp := []) (varR_mk ([], [])) hkey
 rw [mapD_at, hk] at hr
 rw [hrun, varR_inv hr]
end
end Go.Proofs.YtgdejjkiiaodkaaGreatDoor
