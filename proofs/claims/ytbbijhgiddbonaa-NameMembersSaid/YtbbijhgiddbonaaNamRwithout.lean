/- The contract of the reference's Without. -/
import Derived.Test.YtbbijhgiddbonaaNamRboth
import Derived.Maps.AppendAt
namespace Go.Proofs.Ytbbijhgiddbonaa
open Go.RowKit Go.Sort
open Nw Go.ChangeShapes Go.WideShapes
set_option linter.unusedVariables false

def notIn (m : List L8) (x : L8) : Bool := !decide (x ∈ m)
theorem filter_yes {S : List L8} {p : L8 → Bool} {k : Nat} (h : k < S.length) (hp : p S[k] = true) : (S.take (k + 1)).filter p = (S.take k).filter p ++ [S[k]] := by
  rw [List.take_succ_eq_append_getElem h, List.filter_append]; simp [hp]
theorem filter_no {S : List L8} {p : L8 → Bool} {k : Nat} (h : k < S.length) (hp : p S[k] = false) : (S.take (k + 1)).filter p = (S.take k).filter p := by
  rw [List.take_succ_eq_append_getElem h, List.filter_append]; simp [hp]
theorem filter_le (S : List L8) (p : L8 → Bool) (k : Nat) : ((S.take k).filter p).length ≤ S.length := Nat.le_trans (List.length_filter_le _ _) (by rw [List.length_take]; omega)

set_option maxHeartbeats 8000000 in
theorem RWithout_own (v u : Value) (l m : List L8) (w : World) (h : Rd w v l) (hm : Rd w u m) (hbig : l.length ≤ 4398046511103) :
    Calls Try.prog 20 #[v, u] w fun e w' => ∃ v', e = .returned v' ∧ w'.ownsRow w.heap.size 9 1 v' ((sortL l).filter (notIn m)).length (((sortL l).filter (notIn m)).map encStr) ∧ Below w.heap.size w w' := by
  obtain ⟨i0, hi, hz0, hz1, hz2⟩ := infoS
  have hSl := sortL_length_le l
  have HBig : Hid ((sortL l).length ≤ 4398046511103) := Lib.hid (by omega)
  have HSort := Lib.hid fun (W : World) (hW : Rd W v l) => RSorted_own v l W hW hbig
  generalize sortL l = S at HSort HBig ⊢
  have HL := Lib.hid h
  have HM := Lib.hid hm
  clear hbig hSl
  obtain ⟨a, cap, rfl, h1, h2, h3⟩ := h
  obtain ⟨a2, cap2, rfl, k1, k2, k3⟩ := hm
  unfold maxLen at h2 k2
  clear h3 k3
  have HLit := Lib.hid (own_literal w w.heap.size (Nat.le_refl _))
  have HB1 : Hid (Below w.heap.size w (w.alloc (.cells #[] 9))) := Lib.hid ((Below.refl _ _).alloc (Nat.le_refl _) _)
  have hw1s : (w.alloc (.cells #[] 9)).heap.size = w.heap.size + 1 := by simp
  have HW1 := Lib.hid hw1s
  clear hw1s
  go_enter Try.func20, Try.ntmps20
  go_wp2_with (go_at_call 16; refine (HSort.out _ (HL.out.below HB1.out)).mono ?_; rintro e w2 ⟨v6, rfl, hown6, hbel6⟩)
  have HO6 := Lib.hid hown6
  have HB2 : Hid (Below w.heap.size w w2) := Lib.hid (HB1.out.trans (hbel6.mono HB1.out.size))
  have HL2 : Hid (w2.ownsRow w.heap.size 9 1 (.slice (some ⟨w.heap.size, 0, none⟩) 0 0) 0 []) := Lib.hid (by
    refine ⟨rfl, .inr ⟨w.heap.size, 0, #[], rfl, Nat.le_refl _, ?_, Nat.le_refl _, Nat.zero_le _, rfl, rfl⟩⟩
    rw [hbel6.block _ (by rw [HW1.out]; omega)]
    exact Array.getElem?_push_size (xs := w.heap))
  have HAway : Hid (v6.ownBlock = none ∨ v6.ownBlock ≠ some w.heap.size) := Lib.hid (by
    cases hv6 : v6.ownBlock with
    | none => exact .inl rfl
    | some p =>
      refine .inr fun e => ?_
      have := (hown6.lt p hv6).1
      rw [HW1.out] at this
      cases e
      omega)
  obtain ⟨a6, cap6, rfl, p1, p2, _, _⟩ := owns_read hown6
  unfold maxLen at p2
  clear hown6 hbel6 HSort HLit
  go_loopw [5, 7] (fun v5 i wr => ∃ k : Nat, k ≤ S.length ∧ i = .int .i64 k ∧ wr.ownsRow w.heap.size 9 1 v5 ((S.take k).filter (notIn m)).length (((S.take k).filter (notIn m)).map encStr) ∧ Below w.heap.size w wr ∧
      wr.ownsRow (w.heap.size + 1) 9 1 (.slice a6 S.length cap6) S.length (S.map encStr) ∧ ((Value.slice a6 S.length cap6).ownBlock = none ∨ (Value.slice a6 S.length cap6).ownBlock ≠ v5.ownBlock)) (fun _ i _ => S.length - (intOf i).toNat)
  case atStart => exact ⟨0, Nat.zero_le _, rfl, HL2.out, HB2.out, by have := HO6.out; rwa [HW1.out] at this, HAway.out⟩
  case round =>
    clear HO6 HB2 HL2 HAway HB1 HW1
    obtain ⟨k, hk, rfl, hown, hbel, hS6, haway⟩ := hrel
    have HO := Lib.hid hown
    have HB := Lib.hid hbel
    have H6 := Lib.hid hS6
    have HA := Lib.hid haway
    clear hbel haway hS6
    by_cases hlt : k < S.length
    · obtain ⟨a', cap', e0, _, _, _, hcells⟩ := owns_read H6.out
      cases e0
      rcases hcells with e0 | ⟨g, ha6, hcells⟩
      · omega
      subst ha6
      have hc : wr.cell? ⟨g, k, none⟩ = some (.string (ba S[k])) := hcells k hlt
      have hcall := RIn_any _ m (ba S[k]) wr (HM.out.below HB.out)
      rw [ba_data] at hcall
      clear hcells
      have hltz : (k : Int) < (S.length : Int) := by omega
      have HN := Lib.hid (filter_le S (notIn m) k)
      by_cases hin : S[k] ∈ m
      · rw [decide_eq_true hin] at hcall
        have HF := Lib.hid (filter_no (p := notIn m) hlt (by unfold notIn; rw [decide_eq_true hin]; rfl))
        clear hin hown
        generalize ba S[k] = X at hc hcall
        go_wp2_with (go_at_call 22; refine hcall.mono ?_; rintro e w' ⟨rfl, rfl⟩)
        go_roundw
        case measure => simp [intOf]; omega
        case rel => exact ⟨k + 1, by omega, by go_num, by rw [HF.out]; exact HO.out, HB.out, H6.out, HA.out⟩
      · rw [decide_eq_false hin] at hcall
        have HF := Lib.hid (filter_yes (p := notIn m) hlt (by unfold notIn; rw [decide_eq_false hin]; rfl))
        clear hin
        have HX : Hid (((S.take (k + 1)).filter (notIn m)).map encStr = ((S.take k).filter (notIn m)).map encStr ++ [.string (ba S[k])] ∧ ((S.take (k + 1)).filter (notIn m)).length = ((S.take k).filter (notIn m)).length + 1) := Lib.hid (by rw [HF.out]; simp; rfl)
        generalize ba S[k] = X at hc hcall HX
        obtain ⟨YS, hYS⟩ : ∃ YS, YS = ((S.take k).filter (notIn m)).map encStr := ⟨_, rfl⟩
        rw [← hYS] at hown
        have HYS := Lib.hid hYS
        clear hYS
        obtain ⟨NN, hNN⟩ : ∃ NN, NN = ((S.take k).filter (notIn m)).length := ⟨_, rfl⟩
        rw [← hNN] at hown
        have HNN := Lib.hid hNN
        clear hNN
        go_wp2_with (first
          | (go_at_call 22; refine hcall.mono ?_; rintro e w' ⟨rfl, rfl⟩)
          | (at_builtin; refine wpList_append_own_at _ rfl _ _ 24 rfl w.heap.size 9 i0 _ 1 16 Try.underlying24 hi hz0 hz1 hz2 rfl (by decide) _ _ _ rfl (hown.alloc _) ⟨wr.heap.size, 0, none⟩ 1 1 [.string X] rfl rfl ?c1 ?c2 ?c3 ?c4 ?c5 ?_))
        case c1 =>
          intro j u hj
          match j, hj with
          | 0, hj => simp at hj; subst hj; simp [Addr.add]
        case c2 => intro u hu; simp at hu; subst hu; rfl
        case c3 => have := HBig.out; have := HNN.out; have := HN.out; unfold maxLen; omega
        case c4 => have := HBig.out; have := HNN.out; have := HN.out; omega
        case c5 => have := HB.out.size; simp; omega
        · intro v' w2 hown' hgrow _ hat
          have HW2 := Lib.hid hown'
          have HG2 := Lib.hid hgrow
          have HAt := Lib.hid hat
          clear hown' hgrow hown hat
          go_wp2
          go_roundw
          case measure => simp [intOf]; omega
          case rel =>
            refine ⟨k + 1, by omega, by go_num, ?_, ?_, (H6.out.alloc _).kept HG2.out HA.out, ?_⟩
            · rw [HX.out.1, HX.out.2, ← HYS.out, ← HNN.out]; exact HW2.out
            · refine (HB.out.alloc HB.out.size _).grown HG2.out (by have := HB.out.size; simp; omega) ?_
              intro p hp
              exact (HO.out.lt p hp).1
            · rcases HAt.out with e | e
              · rw [e]; exact HA.out
              · refine .inr ?_
                rw [e]
                intro e2
                have := (H6.out.lt _ e2).2
                first | omega | (simp at this; omega)
    · obtain rfl : k = S.length := by omega
      clear hown
      go_wp2
      go_ret
      refine ⟨_, rfl, ?_, HB.out⟩
      have := HO.out
      rw [List.take_length] at this
      exact this

end Go.Proofs.Ytbbijhgiddbonaa
