/- slices.Delete of one element, at nodes and at strings. -/
import Derived.Test.YtgingebdoppdbaaNodWith
import Derived.Deep.RegionLaw
import Derived.Laws.IdiomCopy
namespace Go.Proofs.Ytgingebdoppdbaa
open Go.RowKit Go.Sort
open Nw N8 Go.ChangeShapes Go.WideShapes
set_option linter.unusedVariables false
def setsL : List Value → Nat → List Value → List Value
  | xs, _, [] => xs
  | xs, o, v :: r => setsL (xs.set o v) (o + 1) r
theorem setsL_eq : ∀ (vs xs : List Value) (o : Nat), o + vs.length ≤ xs.length → setsL xs o vs = xs.take o ++ vs ++ xs.drop (o + vs.length)
  | [], xs, o, h => by simp [setsL]
  | v :: r, xs, o, h => by
    rw [List.length_cons] at h
    rw [setsL, setsL_eq r (xs.set o v) (o + 1) (by rw [List.length_set]; omega)]
    have h1 : (xs.set o v).take (o + 1) = xs.take o ++ [v] := by
      rw [List.take_succ_eq_append_getElem (by rw [List.length_set]; omega), List.getElem_set_self, List.take_set, List.set_eq_of_length_le (by rw [List.length_take]; omega)]
    have h2 : (xs.set o v).drop (o + 1 + r.length) = xs.drop (o + (r.length + 1)) := by
      rw [List.drop_set, if_pos (by omega), show o + 1 + r.length = o + (r.length + 1) by omega]
    rw [h1, h2, List.length_cons]
    simp
theorem owns_sets {base : Nat} {e : TypeId} {size g n cap : Nat} : ∀ (vs xs : List Value) (o : Nat) (w : World), w.ownsRow base e size (.slice (some ⟨g, 0, none⟩) n cap) n xs →
    (w.setCells g o vs).ownsRow base e size (.slice (some ⟨g, 0, none⟩) n cap) n (setsL xs o vs) ∧ w.grownBy (w.setCells g o vs) (some g)
  | [], xs, o, w, h => ⟨h, ⟨rfl, rfl, rfl, Nat.le_refl _, fun _ _ _ => rfl⟩⟩
  | v :: r, xs, o, w, h => by
    obtain ⟨h1, h2⟩ := h.stored o v
    obtain ⟨k1, k2⟩ := owns_sets r (xs.set o v) (o + 1) (w.setCell ⟨g, o, none⟩ v) h1
    exact ⟨k1, h2.trans k2⟩
theorem owns_cut {w : World} {base : Nat} {e : TypeId} {size g n cap k : Nat} {xs : List Value} (h : w.ownsRow base e size (.slice (some ⟨g, 0, none⟩) n cap) n xs) (hk : k ≤ n) : w.ownsRow base e size (.slice (some ⟨g, 0, none⟩) k cap) k (xs.take (k * size)) := by
  have hkn : k * size ≤ n * size := Nat.mul_le_mul_right _ hk
  rcases h.2 with ⟨h', _⟩ | ⟨g', cap', cur, h', hb, hg, hnc, hcm, hcs, htake⟩
  · cases h'
  · injection h' with h1 _ h2
    injection h1 with h1
    injection h1 with h1
    subst h1; subst h2
    refine ⟨by rw [List.length_take, h.1]; omega, .inr ⟨g, cap, cur, rfl, hb, hg, by omega, hcm, hcs, ?_⟩⟩
    rw [← htake, List.take_take, Nat.min_eq_left hkn]
/-- The four cells of nothing. -/
def zero4 : List Value := [.int .i64 0, .string ⟨#[]⟩, .slice none 0 0, .slice none 0 0]
theorem run_clear4 (w : World) (ty : TypeId) (b o c : Nat)
    (hc : ∀ j, j < 4 → (w.cell? ⟨b, o + j, none⟩).isSome = true) (hf : ∀ j, j < 4 → w.frozen? ⟨b, o + j, none⟩ = false) :
    (Builtin.clear_ #[23] ty #[.slice (some ⟨b, o, none⟩) 1 c]).run Try.prog w = .ok (.tuple #[]) (w.setCells b o zero4) := by
  have hst := run_storeCells_cells (P := Try.prog) b o zero4 0 w (by simpa [zero4] using hc) (by simpa [zero4] using hf) (by
    intro v hv
    simp only [zero4, List.mem_cons, List.not_mem_nil, or_false] at hv
    rcases hv with rfl | rfl | rfl | rfl <;> rfl)
  simp only [Nat.add_zero] at hst
  have hzv := Try.zeroValue25
  have hzc : (Builtin.zeroCells #[.int .i64 0, .string ⟨#[]⟩, .slice none 0 0, .slice none 0 0] 1).toList = zero4 := by kernel_rfl
  simp [Builtin.clear_, run_underlying Try.underlying23, hzv, Value.cells, hzc, hst]
set_option maxRecDepth 100000 in
set_option maxHeartbeats 4000000 in
theorem DeleteN_any (S : Nat → Prop) (base : Nat) (w : World) (v : Value) (qs : List Q4) (ds : List Nd) (h : KO S base w v qs ds) (hS : ∀ b, S b → b < base) (j : Nat) (hj : j < ds.length) :
    Calls Try.prog 43 #[v, .int .i64 j, .int .i64 ((j : Int) + 1)] w fun e w' => ∃ v', e = .returned v' ∧ (∃ qs', KO S base w' v' qs' (ds.eraseIdx j)) ∧ w.grownBy w' v.ownBlock := by
  obtain ⟨g, cap, rfl, hbg, hgs, hcap, hcm⟩ := h.form (Nat.lt_of_le_of_lt (Nat.zero_le _) hj)
  obtain ⟨M, hM⟩ : ∃ M, ds.length = j + 1 + M := ⟨ds.length - (j + 1), by omega⟩
  obtain ⟨ho, hql, hqd⟩ := h
  obtain ⟨i0, hi, hz0, hz1, hz2⟩ := infoN
  rw [hM] at ho hcap ⊢
  unfold maxLen at hcm
  have HO := Lib.hid ho
  have hq2 : qs.length = j + 1 + M := by rw [hql, hM]
  obtain ⟨news, hnews⟩ : ∃ news, news = flat4 (qs.drop (j + 1)) := ⟨_, rfl⟩
  have hlen : news.length = M * 4 := by rw [hnews, flat4_len, List.length_drop]; omega
  have hget : ∀ t u, news[t]? = some u → w.cell? ⟨g, (j + 1) * 4 + t, none⟩ = some u := by
    intro t u hu
    have ht := (List.getElem?_eq_some_iff.1 hu).1
    rw [hlen] at ht
    rw [ho.cellAt _ (by omega), ← hu, hnews, ← flat4_drop, List.getElem?_drop]
  obtain ⟨A, hA, hsrc⟩ : ∃ A : Addr, (if cap = j + 1 then (some ⟨g, 0, none⟩ : Option Addr) else some ⟨g, (j + 1) * 4, none⟩) = some A ∧ Hid (∀ t u, news[t]? = some u → w.drew.cell? (A.add t) = some u) := by
    by_cases h : cap = j + 1
    · refine ⟨⟨g, 0, none⟩, by simp [h], fun t u hu => ?_⟩
      have h0 : news.length = 0 := by rw [hlen]; omega
      rw [List.length_eq_zero_iff.1 h0] at hu
      cases hu
    · refine ⟨⟨g, (j + 1) * 4, none⟩, by simp [h], fun t u hu => ?_⟩
      rw [add_plain]
      exact hget t u hu
  have s1 := Lib.hid hlen
  have s2 : Hid (∀ u ∈ news, u.oneCell' = true) := Lib.hid (by
    intro u hu
    refine flat4_one hql hqd u ?_
    rw [hnews, ← flat4_drop] at hu
    exact List.mem_of_mem_drop hu)
  have s3 : Hid (∀ t, t < news.length → (w.drew.cell? ⟨g, 0 + j * 4 + t, none⟩).isSome = true ∧ w.drew.frozen? ⟨g, 0 + j * 4 + t, none⟩ = false) := Lib.hid (by
    intro t ht
    rw [hlen] at ht
    rw [Nat.zero_add]
    refine ⟨?_, ho.frozenAt _⟩
    show (w.cell? _).isSome = true
    rw [ho.cellAt _ (by omega), List.getElem?_eq_getElem (by rw [flat4_len, hq2]; omega)]
    rfl)
  have p1 : ((j : Int) == (j : Int) + 1) = false := beq_eq_false_iff_ne.2 (by omega)
  obtain ⟨W1, hW1⟩ : ∃ W1, W1 = w.drew.setCells g (0 + j * 4) news := ⟨_, rfl⟩
  have hW := Lib.hid hW1
  have c1 : (0 : Int) ≤ (j : Int) + 1 := by omega
  have c2 : (j : Int) + 1 ≤ (j : Int) + 1 + (M : Int) := by omega
  have hic : j ≤ cap := by omega
  have hjc : j + 1 ≤ cap := by omega
  have HQL := Lib.hid hql
  have HQD := Lib.hid hqd
  have HN := Lib.hid hnews
  have ho1 := owns_sets news (flat4 qs) (j * 4) w.drew (show w.drew.ownsRow base 25 4 (.slice (some ⟨g, 0, none⟩) (j + 1 + M) cap) (j + 1 + M) (flat4 qs) from ho)
  rw [← Nat.zero_add (j * 4), ← hW1, Nat.zero_add] at ho1
  have HO1 := Lib.hid ho1
  have hcl : ∀ ty c, (Builtin.clear_ #[23] ty #[.slice (some ⟨g, (j + M) * 4, none⟩) (j + 1 + M - (j + M)) c]).run Try.prog W1 = .ok (.tuple #[]) (W1.setCells g ((j + M) * 4) zero4) := fun ty c => by
    rw [show j + 1 + M - (j + M) = 1 by omega]
    refine run_clear4 W1 ty g _ c (fun t ht => ?_) fun t ht => ho1.1.frozenAt _
    rw [ho1.1.cellAt _ (by omega), List.getElem?_eq_getElem (by rw [ho1.1.1]; omega)]
    rfl
  have c3 : ¬ cap = j + M := by omega
  have c4 : (0 : Int) ≤ (j : Int) + (M : Int) := by omega
  have c5 : (j : Int) + (M : Int) ≤ (j : Int) + 1 + (M : Int) := by omega
  have c6 : (j : Int) + 1 + (M : Int) ≤ (cap : Int) := by omega
  clear ho1
  clear hW1 ho hql hqd hq2 hget hnews hlen
  go_enter Try.func43, Try.ntmps43
  go_wp2_with fail
  go_region_law (refine step_append_room rfl (.tmp 22) (.tmp 25) 23 rfl 25 i0 4 Try.underlying23 hi hz1 g 0 j cap (by simp [Act.eval, Act.put]) A M (cap - (j + 1)) news (by simp [Act.eval, Act.put]) s1.out hsrc.out s2.out (by omega) s3.out ?_; rw [← hW.out])
  go_wp2
  go_ret
  obtain ⟨k1, k2⟩ := owns_sets zero4 _ ((j + M) * 4) W1 HO1.out.1
  have hg1 := HO1.out.2.trans k2
  have hgr : w.grownBy (W1.setCells g ((j + M) * 4) zero4) (some g) := ⟨hg1.os, hg1.tape, hg1.output, hg1.size, hg1.block⟩
  have hql := HQL.out
  have hq2 : qs.length = j + 1 + M := by rw [hql, hM]
  have hnl : news.length = M * 4 := s1.out
  have hfl : (flat4 qs).length = (j + 1 + M) * 4 := by rw [flat4_len, hq2]
  have hk := owns_cut (k := j + M) k1 (by omega)
  have hz4 : zero4.length = 4 := rfl
  have e1 : setsL (flat4 qs) (j * 4) news = (flat4 qs).take (j * 4) ++ news ++ (flat4 qs).drop (j * 4 + news.length) := setsL_eq _ _ _ (by rw [hnl, hfl]; omega)
  have el : (setsL (flat4 qs) (j * 4) news).length = (j + 1 + M) * 4 := HO1.out.1.1
  have e2 : (setsL (setsL (flat4 qs) (j * 4) news) ((j + M) * 4) zero4).take ((j + M) * 4) = flat4 (qs.eraseIdx j) := by
    rw [setsL_eq _ _ _ (by rw [el, hz4]; omega), List.append_assoc, List.take_append_of_le_length (by rw [List.length_take, el]; omega), List.take_take, Nat.min_self, e1,
      List.take_append_of_le_length (by rw [List.length_append, List.length_take, hfl, hnl]; omega), List.take_of_length_le (by rw [List.length_append, List.length_take, hfl, hnl]; omega), HN.out,
      flat4_take, ← flat4_app, List.eraseIdx_eq_take_drop_succ]
  rw [e2] at hk
  have hdl : (ds.eraseIdx j).length = j + M := by rw [List.length_eraseIdx, if_pos hj]; omega
  refine ⟨_, rfl, ⟨qs.eraseIdx j, by rw [hdl]; exact hk, by rw [hdl, List.length_eraseIdx, if_pos (by omega)]; omega, fun i hi gi => ?_⟩, hgr⟩
  have hkk : ∀ b, S b → S b ∧ (W1.setCells g ((j + M) * 4) zero4).heap[b]? = w.heap[b]? := fun b hb => ⟨hb, hgr.block b (by have := hS b hb; omega) (fun e => by injection e with e; have := hS b hb; omega)⟩
  rw [List.getElem_eraseIdx, List.getElem_eraseIdx]
  by_cases hij : i < j
  · rw [dif_pos hij, dif_pos hij]
    exact NdC.keep hkk _ (HQD.out i (by omega) (by omega))
  · rw [dif_neg hij, dif_neg hij]
    rw [hdl] at gi
    exact NdC.keep hkk _ (HQD.out (i + 1) (by omega) (by omega))
theorem once_eraseS {l : List L8} {j : Nat} (hj : j < l.length) : l.take j ++ l.drop (j + 1) = l.eraseIdx j := (List.eraseIdx_eq_take_drop_succ l j).symm
set_option maxHeartbeats 2000000 in
theorem DeleteS_any (base : Nat) (w : World) (v : Value) (l : List L8) (h : w.ownsRow base 9 1 v l.length (l.map encStr)) (j : Nat) (hj : j < l.length) :
    Calls Try.prog 42 #[v, .int .i64 j, .int .i64 ((j : Int) + 1)] w fun e w' => ∃ v', e = .returned v' ∧ w'.ownsRow base 9 1 v' (l.eraseIdx j).length ((l.eraseIdx j).map encStr) ∧ w.grownBy w' v.ownBlock := by
  have hv : v ≠ .slice none 0 0 := by
    rintro rfl
    rcases h.2 with ⟨_, h0⟩ | ⟨g, cap, cur, h0, _⟩
    · omega
    · cases h0
  obtain ⟨g, cap, rfl, hbg, hg, h1, h2, hl, hH⟩ := Lib.holds_of_ownsRow h hv
  unfold maxLen at h2
  have hc := Try.slices_Delete_string g 0 cap j (j + 1) l w hH h1 (by omega) (by omega) (by omega)
  refine (show Calls Try.prog 42 #[.slice (some ⟨g, 0, none⟩) l.length cap, .int .i64 j, .int .i64 ((j : Int) + 1)] w _ from hc).mono ?_
  rintro e w' ⟨rfl, q, rfl⟩
  have e1 : j + 1 - j = 1 := by omega
  have hel : (l.eraseIdx j).length = l.length - 1 := by rw [List.length_eraseIdx, if_pos hj]
  have hly : (l.take j ++ l.drop (j + 1) ++ List.replicate (j + 1 - j) []).length = l.length := by simp; omega
  have hc2 := Lib.ownsRow_putRow (q := q) (k := l.length - 1) (ys := l.take j ++ l.drop (j + 1) ++ List.replicate (j + 1 - j) []) h hly (by omega)
  have ht : (l.take j ++ l.drop (j + 1) ++ List.replicate (j + 1 - j) []).take (l.length - 1) = l.eraseIdx j := by
    rw [List.take_append_of_le_length (by simp; omega), once_eraseS hj, List.take_of_length_le (by rw [hel]; exact Nat.le_refl _)]
  rw [ht] at hc2
  refine ⟨_, rfl, ?_, ?_⟩
  · rw [hel, e1]; rw [e1] at hc2; exact hc2
  · refine ⟨rfl, rfl, rfl, by simp [putRow, mapBlock, Sort.ahead], fun k hk hne => ?_⟩
    have hkg : g ≠ k := fun e => hne (by rw [e]; rfl)
    simp [putRow, mapBlock, Sort.ahead, Array.getElem?_modify, hkg]
end Go.Proofs.Ytgingebdoppdbaa
