/- Sorted: slices.Clone, SortFunc and Compact at ports; the sorted list. -/
import Derived.Test.YtkgfinhepbipeaaDoorPrtCmp
import Derived.Test.YtkgfinhepbipeaaDoorOrdLst
namespace Go.Proofs.YtkgfinhepbipeaaDoor
open Go.RowKit Go.Sort
open Nw Dg P16
set_option linter.unusedVariables false
theorem less_strict : Ol.Strict lessP := ⟨lessP_irr, lessP_tr, lessP_tri⟩
theorem less_swo : SWO (ltOf cmpP) := by
  have e : ltOf cmpP = lessP := by funext a b; exact cmpP_less a b
  rw [e]
  refine ⟨lessP_irr, fun x y z => lessP_tr, fun x y z h k => ?_⟩
  refine Bool.eq_false_iff.2 fun hxz => ?_
  cases hyx : lessP y x with
  | true => rw [lessP_tr hyx hxz] at k; cases k
  | false =>
    have := lessP_tri h hyx
    subst this
    rw [k] at hxz; cases hxz
theorem le_cases {a b : Po} (h : lessP b a = false) : lessP a b = true ∨ a = b := by
  cases hab : lessP a b with
  | true => exact .inl rfl
  | false => exact .inr (lessP_tri hab h)
theorem compact_less (d : Array Po) (hd : ∀ i j, i < j → j < d.size → lessP d[j]! d[i]! = false) : ∀ m, m ≤ d.size → Ol.Ascd lessP (Lib.compactUpTo d m) ∧ ∀ x, x ∈ Lib.compactUpTo d m ↔ ∃ j, j < m ∧ d[j]! = x
  | 0, _ => by
    refine ⟨by simp [Lib.compactUpTo, Ol.Ascd], fun x => ?_⟩
    simp [Lib.compactUpTo]
  | m + 1, hm => by
    obtain ⟨ih1, ih2⟩ := compact_less d hd m (by omega)
    rw [Lib.compactUpTo_succ]
    by_cases hk : Lib.keeps d m = true
    · rw [if_pos hk]
      constructor
      · unfold Ol.Ascd at ih1 ⊢
        rw [List.pairwise_append]
        refine ⟨ih1, by simp, fun x hx y hy => ?_⟩
        obtain ⟨j, hj, rfl⟩ := (ih2 x).1 hx
        obtain rfl : y = d[m]! := by simpa using hy
        have hkk : m = 0 ∨ d[m]! ≠ d[m - 1]! := by unfold Lib.keeps at hk; exact of_decide_eq_true hk
        rcases hkk with h0 | h0
        · omega
        · have h2 : lessP d[m - 1]! d[m]! = true := (le_cases (hd (m - 1) m (by omega) (by omega))).resolve_right fun e => h0 e.symm
          rcases Nat.lt_or_ge j (m - 1) with h3 | h3
          · rcases le_cases (hd j (m - 1) h3 (by omega)) with h4 | h4
            · exact lessP_tr h4 h2
            · rw [h4]; exact h2
          · obtain rfl : j = m - 1 := by omega
            exact h2
      · intro x
        rw [List.mem_append, ih2 x, List.mem_singleton]
        constructor
        · rintro (⟨j, hj, rfl⟩ | rfl)
          · exact ⟨j, by omega, rfl⟩
          · exact ⟨m, by omega, rfl⟩
        · rintro ⟨j, hj, rfl⟩
          by_cases e : j = m
          · subst e; exact .inr rfl
          · exact .inl ⟨j, by omega, rfl⟩
    · rw [if_neg hk, List.append_nil]
      refine ⟨ih1, fun x => ?_⟩
      rw [ih2 x]
      constructor
      · rintro ⟨j, hj, rfl⟩; exact ⟨j, by omega, rfl⟩
      · rintro ⟨j, hj, rfl⟩
        by_cases e : j = m
        · subst e
          have h0 : 0 < j := by
            refine Nat.pos_of_ne_zero fun e => hk ?_
            subst e; exact Lib.keeps_lt_one d 0 (by omega)
          have h1 : d[j]! = d[j - 1]! := Classical.byContradiction fun e => hk (Lib.keeps_pos e)
          exact ⟨j - 1, by omega, h1.symm⟩
        · exact ⟨j, by omega, rfl⟩
/-- What is sorted and compacted is the sorted list. -/
theorem sorted_is (l : List Po) (d : Array Po) (hp : PermIn 0 l.length l.toArray d) (hs : SortedIn (ltOf cmpP) 0 l.length d) : d.size = l.length ∧ Lib.compactUpTo d l.length = Ol.srt lessP l := by
  obtain ⟨h1, _, h3⟩ := hp
  have hz : d.size = l.length := by rw [h1]; simp
  refine ⟨hz, ?_⟩
  obtain ⟨k1, k2⟩ := compact_less d (fun i j hij hj => by rw [← cmpP_less]; exact hs i j (Nat.zero_le _) hij (by omega)) l.length (by omega)
  refine (Ol.srt_eq less_strict k1 fun x => ?_).symm
  rw [k2 x]
  have e1 : (d.extract 0 l.length).toList = d.toList := by rw [← hz]; simp
  have e2 : (l.toArray.extract 0 l.length).toList = l := by simp
  rw [e1, e2] at h3
  rw [← h3.mem_iff]
  constructor
  · rintro ⟨j, hj, rfl⟩
    rw [getElem!_pos d j (by omega)]; simp
  · intro hx
    obtain ⟨j, hj, e⟩ := List.getElem_of_mem hx
    have hj' : j < d.size := by simpa using hj
    exact ⟨j, by omega, by rw [getElem!_pos d j hj', ← e]; simp⟩
theorem flat_is (d : Array Po) : flatK encP 4 d = (cellsP d.toList).toArray := by
  have hs : (flatK encP 4 d).size = (cellsP d.toList).toArray.size := by rw [size_flatK]; simp [cellsP_len]
  refine ext_get! hs fun t ht => ?_
  rw [size_flatK] at ht
  rw [get_flatK _ _ _ _ ht]
  obtain ⟨q, r, hr, rfl⟩ : ∃ q r, r < 4 ∧ t = q * 4 + r := ⟨t / 4, t % 4, Nat.mod_lt _ (by decide), by omega⟩
  have hq : q < d.size := by omega
  have e1 : (q * 4 + r) / 4 = q := by omega
  have e2 : (q * 4 + r) % 4 = r := by omega
  rw [e1, e2, getElem!_pos d q hq]
  have hl : q * 4 + r < (cellsP d.toList).toArray.size := by simp [cellsP_len]; omega
  obtain ⟨f0, f1, f2, f3⟩ := cellsP_at d.toList q (by simpa using hq)
  have key : (cellsP d.toList).toArray[q * 4 + r]? = some (encP d[q])[r]! := by
    rw [List.getElem?_toArray]
    rw [Array.getElem_toList] at f0 f1 f2 f3
    match r, hr with
    | 0, _ => exact f0
    | 1, _ => exact f1
    | 2, _ => exact f2
    | 3, _ => exact f3
  rw [getElem!_pos (cellsP d.toList).toArray _ hl]
  rw [Array.getElem?_eq_getElem hl] at key
  exact (Option.some.inj key).symm
theorem op_holds {base g n cap : Nat} {w : World} {d : Array Po} (h : OP base w g n cap d.toList) : HoldsK encP 4 w g 0 d := fun t ht => by
  rw [size_flatK] at ht
  have hn := h.len
  have hn2 : d.size = n := by simpa using hn
  refine ⟨?_, by rw [Nat.zero_add]; exact h.frozen t⟩
  have hl : t < (cellsP d.toList).toArray.size := by simp [cellsP_len]; omega
  rw [flat_is, getElem!_pos (cellsP d.toList).toArray _ hl, Nat.zero_add, World.ownsRow.cellAt h t (by omega), ← List.getElem?_toArray, Array.getElem?_eq_getElem hl]
  rfl
theorem op_sorted {base g n cap m : Nat} {w : World} {os : Array Obj} {l : List Po} {d : Array Po} (h : OP base w g n cap l) (hd : d.size = n) :
    OP base (sortWorldK encP 4 w g 0 m d os) g n cap d.toList ∧ w.grownBy (sortWorldK encP 4 w g 0 m d os) (some g) := by
  have hlt := h.lt
  have hdl : (cellsP d.toList).length = n * 4 := by rw [cellsP_len]; simp [hd]
  constructor
  · rcases h.2 with ⟨e0, _⟩ | ⟨g', cap', cur, e0, hb, hg, hn, hm, hs, ht⟩
    · cases e0
    · injection e0 with e1 _ e3
      injection e1 with e1
      injection e1 with e1
      subst e1; subst e3
      refine ⟨hdl, .inr ⟨g, cap, putCells id 0 (cellsP d.toList).toArray cur, rfl, hb, ?_, hn, hm, by simpa [putCells] using hs, ?_⟩⟩
      · unfold sortWorldK putRowK
        rw [heap_grow_old _ _ (by simp [putRow, mapBlock, Sort.ahead]; exact hlt.2), flat_is]
        simp [putRow, mapBlock, Sort.ahead, Array.getElem?_modify, hg, onCells]
      · apply List.ext_getElem?
        intro j
        by_cases hj : j < n * 4
        · rw [List.getElem?_take_of_lt hj, Array.getElem?_toList]
          have hjc : j < cur.size := by rw [hs]; omega
          have hjl : j < (cellsP d.toList).length := by rw [hdl]; exact hj
          simp only [putCells, Array.getElem?_mapIdx, Array.getElem?_eq_getElem hjc, Option.map_some]
          rw [if_pos (by simp; omega), List.getElem?_eq_getElem hjl, getElem!_pos _ _ (by simpa using hjl)]
          simp
        · rw [List.getElem?_take_eq_none (by omega), List.getElem?_eq_none (by omega)]
  · refine ⟨rfl, rfl, rfl, by simp [sortWorldK, putRowK, putRow, mapBlock, Sort.ahead], fun k hk hne => ?_⟩
    unfold sortWorldK
    rw [heap_grow_old _ _ (by simp [putRowK, putRow, mapBlock, Sort.ahead]; exact hk)]
    have : g ≠ k := fun e => hne (by rw [e])
    simp [putRowK, putRow, mapBlock, Sort.ahead, Array.getElem?_modify, this]
theorem cmp_lays (g n : Nat) (w : World) : CmpLays Tryd.prog 32 #[] encP 4 cmpP g 0 n w := fun _ _ _ _ x y => compare_any x y _
theorem SortP_any (base g n cap : Nat) (l : List Po) (w : World) (h : OP base w g n cap l) (hl : n ≤ 100000) :
    Calls Tryd.prog 31 #[.slice (some ⟨g, 0, none⟩) n cap, .func (.func 32) #[] #[]] w fun e w' => e = .returned (.tuple #[]) ∧ ∃ d : Array Po, OP base w' g n cap d.toList ∧ w.grownBy w' (some g) ∧ d.size = n ∧ Lib.compactUpTo d n = Ol.srt lessP l := by
  have hlen := h.len
  have hsz : l.toArray.size = n := by simpa using hlen
  have hc := AnyQ.slices_SortFunc Tryd.sortPort 4 Tryd.isAgg24 Tryd.sizeOf24 encP (fun _ => rfl) (fun x v hv => encP_one x v hv) cmpP less_swo 32 #[] g 0 cap l.toArray w
    (enters_of Tryd.func32 (by kernel_rfl) rfl) (cmp_lays g _ w) (op_holds (d := l.toArray) (by simpa using h)) h.lt.2 (by rw [hsz]; omega)
  rw [hsz] at hc
  refine hc.mono ?_
  rintro e w' ⟨rfl, d, m, os, hp, hs, rfl⟩
  rw [← hlen] at hp hs
  obtain ⟨k1, k2⟩ := sorted_is l d hp hs
  rw [hlen] at k1 k2
  obtain ⟨r1, r2⟩ := op_sorted (m := m) (os := os) h k1
  exact ⟨rfl, d, r1, r2, k1, k2⟩
set_option maxHeartbeats 2000000 in
theorem CloneP_zero (A : Addr) (cap : Nat) (w : World) :
    Calls Tryd.prog 30 #[.slice (some A) 0 cap] w fun e w' => ∃ v', e = .returned v' ∧ w'.ownsRow w.heap.size 24 4 v' 0 (cellsP []) ∧ Below w.heap.size w w' := by
  obtain ⟨i0, hi, hz0, hz1, hz2⟩ := infoP
  have q23 : ∀ (w : World) (a : Option Addr) (n c n' c' : Nat), (binOp .eql 31 (.slice a n c) (.slice none n' c')).run Tryd.prog w = .ok (.bool a.isNone) w := fun w a n c n' c' => Lib.run_eql_slice_nil w _ _ a n c n' c' Tryd.underlying31
  go_enter Tryd.func30, Tryd.ntmps30
  go_wp2_with (at_builtin; refine wpList_append_own _ rfl _ _ 31 rfl w.heap.size 24 i0 zeroP 4 48 Tryd.underlying31 hi hz0 hz1 hz2 (by kernel_rfl) (by decide) _ _ _ rfl (World.ownsRow_made w #[] 0 (Nat.le_refl _) (Nat.zero_le _) (by simp)) A 0 cap [] rfl ?qc1 ?qc2 ?qc3 ?qc4 ?qc5 ?qc6 ?_)
  case qc1 => rfl
  case qc2 => intro j u hj; cases hj
  case qc3 => intro u hu; cases hu
  case qc4 => exact Nat.zero_le _
  case qc5 => decide
  case qc6 => simp
  intro v' w1 hown hgrow hnil
  go_wp2
  go_ret
  exact ⟨v', rfl, by have h9 := hown; simpa [cellsP] using h9, ((Below.refl _ w).alloc (Nat.le_refl _) _).grown hgrow (by simp) (by intro k hk; simp [Value.ownBlock] at hk; omega)⟩
theorem CloneP_any (v : Value) (l : List Po) (w : World) (h : PR w v l) (hl : l.length ≤ 100000) :
    Calls Tryd.prog 30 #[v] w fun e w' => ∃ v', e = .returned v' ∧ w'.ownsRow w.heap.size 24 4 v' l.length (cellsP l) ∧ Below w.heap.size w w' := by
  obtain ⟨a, cap, rfl, h1, h2, h3⟩ := h
  obtain ⟨i0, hi, hz0, hz1, hz2⟩ := infoP
  cases a with
  | none =>
    rcases h3 with ⟨rfl, _⟩ | ⟨b, o, e, _⟩
    · refine (AnyE.slices_Clone_nil Tryd.clonePort 0 cap w).mono ?_
      rintro e w' ⟨rfl, rfl⟩
      exact ⟨_, rfl, World.ownsRow_nil _ _ _ _, Below.refl _ _⟩
    · cases e
  | some A =>
    rcases h3 with ⟨rfl, _⟩ | ⟨b, o, e, hb, hat⟩
    · exact CloneP_zero A cap w
    · injection e with e
      subst e
      refine (AnyE.slices_Clone Tryd.clonePort i0 zeroP 4 48 hi hz0 hz1 hz2 (by kernel_rfl) (by decide) Tryd.sizeOf24 b o l.length cap (cellsP l) w (cellsP_len l) (by unfold maxLen; omega) (by omega) (fun j u hu => cellsP_read hat j u hu) (cellsP_one l)).mono ?_
      rintro e w' ⟨v', rfl, ho, -, hbel⟩
      exact ⟨v', rfl, ho, hbel⟩
set_option maxHeartbeats 2000000 in
theorem Compact_nil (c : Nat) (w : World) : Calls Tryd.prog 33 #[.slice none 0 c] w fun e w' => e = .returned (.slice none 0 c) ∧ w' = w := by
  go_enter Tryd.func33, Tryd.ntmps33
  go_wp2
  go_ret
  exact ⟨rfl, rfl⟩
set_option maxHeartbeats 4000000 in
theorem Sorted16_any (v : Value) (l : List Po) (w : World) (h : PR w v l) (hl : l.length ≤ 100000) :
    Calls Tryd.prog 15 #[v] w fun e w' => ∃ v', e = .returned v' ∧ PR w' v' (Ol.srt lessP l) ∧ Below w.heap.size w w' := by
  have HCL := Lib.hid (CloneP_any v l w h hl)
  have HSO : Hid (∀ v1 w1, w1.ownsRow w.heap.size 24 4 v1 l.length (cellsP l) → Calls Tryd.prog 31 #[v1, .func (.func 32) #[] #[]] w1 fun e w' => e = .returned (.tuple #[]) ∧
      Calls Tryd.prog 33 #[v1] w' fun e w2 => ∃ v2, e = .returned v2 ∧ PR w2 v2 (Ol.srt lessP l) ∧ (Below w.heap.size w w1 → Below w.heap.size w w2)) := Lib.hid (fun v1 w1 ho => by
    rcases ho.2 with ⟨rfl, h0⟩ | ⟨g, cap, cur, rfl, hb, hg, hn, hm, hs, ht⟩
    · have e0 : l = [] := List.length_eq_zero_iff.1 h0
      subst e0
      refine (AnyF.slices_SortFunc_none { Tryd.sortPort with } none 0 _ w1).mono ?_
      rintro e w' ⟨rfl, rfl⟩
      refine ⟨rfl, (Compact_nil 0 w').mono ?_⟩
      rintro e w2 ⟨rfl, rfl⟩
      exact ⟨_, rfl, pr_nil _ none 0 (Nat.zero_le _) (fun _ => rfl), fun hb => hb⟩
    · refine (SortP_any w.heap.size g l.length cap l w1 ho hl).mono ?_
      rintro e w' ⟨rfl, d, r1, r2, r3, r4⟩
      refine ⟨rfl, (CompactP_any w.heap.size g l.length cap d w' r1 hl hn hm).mono ?_⟩
      rintro e w2 ⟨rfl, k1, k2⟩
      rw [r4] at k1
      refine ⟨_, rfl, (pr_of_owns (by rw [r4]; exact k1)).1, fun hbel => (hbel.grown r2 hbel.size (fun k hk => by injection hk with hk; omega)).grown k2 (Nat.le_trans hbel.size r2.size) (fun k hk => by injection hk with hk; omega)⟩)
  clear h
  go_enter Tryd.func15, Tryd.ntmps15
  go_wp2_with first
    | (go_at_call 30; refine HCL.out.mono ?_; rintro e w1 ⟨v1, rfl, ho, hb⟩; have HB := Lib.hid hb; have HS1 := Lib.hid (HSO.out _ _ ho); clear hb ho)
    | (go_at_call 31; refine HS1.out.mono ?_; rintro e w2 ⟨rfl, hc⟩; have HC := Lib.hid hc; clear hc)
    | (go_at_call 33; refine HC.out.mono ?_; rintro e w3 ⟨v3, rfl, hp, hb⟩; have HP := Lib.hid hp; have HB3 := Lib.hid (hb HB.out); clear hp hb)
  go_ret
  exact ⟨_, rfl, HP.out, HB3.out⟩
end Go.Proofs.YtkgfinhepbipeaaDoor
