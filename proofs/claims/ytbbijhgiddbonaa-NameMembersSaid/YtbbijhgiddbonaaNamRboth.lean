/- The contracts of the reference's Both and Without. -/
import Derived.Test.YtbbijhgiddbonaaNamRsort
import Derived.Test.YtbbijhgiddbonaaNamSorted
namespace Go.Proofs.Ytbbijhgiddbonaa
open Go.RowKit Go.Sort
open Nw Go.ChangeShapes Go.WideShapes
set_option linter.unusedVariables false

theorem below_trans' {w w1 w2 : World} (h1 : Below w.heap.size w w1) (h2 : Below w1.heap.size w1 w2) : Below w.heap.size w w2 := h1.trans (h2.mono h1.size)

/-- One append of a string that was read: what it leaves of an own slice. -/
theorem take_next {l : List L8} {k : Nat} (h : k < l.length) : (l.take (k + 1)).map encStr = (l.take k).map encStr ++ [.string (ba l[k])] := by
  rw [List.take_succ_eq_append_getElem h, List.map_append]; rfl

set_option maxHeartbeats 8000000 in
theorem RBoth_own (v u : Value) (l m : List L8) (w : World) (h : Rd w v l) (hm : Rd w u m) (hbig : l.length + m.length ≤ 4398046511103) :
    Calls Try.prog 18 #[v, u] w fun e w' => ∃ v', e = .returned v' ∧ w'.ownsRow w.heap.size 9 1 v' (sortL (l ++ m)).length ((sortL (l ++ m)).map encStr) ∧ Below w.heap.size w w' := by
  obtain ⟨i0, hi, hz0, hz1, hz2⟩ := infoS
  have HSort : Hid (∀ (v1 : Value) (w1 : World), w1.ownsRow w.heap.size 9 1 v1 (l ++ m).length ((l ++ m).map encStr) → Below w.heap.size w w1 →
      Calls Try.prog 16 #[v1] w1 fun e w' => ∃ v', e = .returned v' ∧ w'.ownsRow w.heap.size 9 1 v' (sortL (l ++ m)).length ((sortL (l ++ m)).map encStr) ∧ Below w.heap.size w w') := Lib.hid (by
    intro v1 w1 ho hb
    refine (RSorted_own v1 (l ++ m) w1 (rd_of_owns ho) (by rw [List.length_append]; exact hbig)).mono ?_
    rintro e w' ⟨v', rfl, ho', hb'⟩
    exact ⟨v', rfl, owns_low ho' hb.size, below_trans' hb hb'⟩)
  generalize hlm : sortL (l ++ m) = SS at HSort ⊢
  clear hlm
  generalize SS.length = NS at HSort ⊢
  generalize SS.map encStr = XS at HSort ⊢
  have HBig := Lib.hid hbig
  have HL := Lib.hid h
  have HM := Lib.hid hm
  clear hbig
  obtain ⟨a, cap, rfl, h1, h2, h3⟩ := h
  obtain ⟨a2, cap2, rfl, k1, k2, k3⟩ := hm
  unfold maxLen at h2 k2
  have H3 := Lib.hid h3
  have K3 := Lib.hid k3
  clear h3 k3
  go_enter Try.func18, Try.ntmps18
  go_wp2
  go_loopw [5, 6] (fun v5 i wr => ∃ k : Nat, k ≤ l.length ∧ i = .int .i64 k ∧ wr.ownsRow w.heap.size 9 1 v5 k ((l.take k).map encStr) ∧ Below w.heap.size w wr) (fun _ i _ => l.length - (intOf i).toNat)
  case atStart => exact ⟨0, Nat.zero_le _, rfl, own_literal w _ (Nat.le_refl _), (Below.refl _ _).alloc (Nat.le_refl _) _⟩
  case round =>
    obtain ⟨k, hk, rfl, hown, hbel⟩ := hrel
    have HO := Lib.hid hown
    have HB := Lib.hid hbel
    clear hbel
    by_cases hlt : k < l.length
    · rcases H3.out with ⟨e0, _⟩ | ⟨b, o, ha, h4, h5⟩
      · rw [e0] at hlt; exact absurd hlt (Nat.not_lt_zero _)
      subst ha
      have hc : wr.cell? ⟨b, o + k, none⟩ = some (.string (ba l[k])) := (HB.out.cell (p := ⟨b, o + k, none⟩) h4).trans (h5 k hlt)
      clear h5
      have hltz : (k : Int) < (l.length : Int) := by omega
      have HX := Lib.hid (take_next hlt)
      generalize ba l[k] = X at hc HX
      obtain ⟨YS, hYS⟩ : ∃ YS, YS = (l.take k).map encStr := ⟨_, rfl⟩
      rw [← hYS] at hown
      have HYS := Lib.hid hYS
      clear hYS
      go_wp2_with (at_builtin; refine wpList_append_own _ rfl _ _ 24 rfl w.heap.size 9 i0 _ 1 16 Try.underlying24 hi hz0 hz1 hz2 rfl (by decide) _ _ _ rfl (hown.alloc _) ⟨wr.heap.size, 0, none⟩ 1 1 [.string X] rfl rfl ?c1 ?c2 ?c3 ?c4 ?c5 ?_)
      case c1 =>
        intro j u hj
        match j, hj with
        | 0, hj => simp at hj; subst hj; simp [Addr.add]
      case c2 => intro u hu; simp at hu; subst hu; rfl
      case c3 => have := HBig.out; unfold maxLen; omega
      case c4 => have := HBig.out; omega
      case c5 => have := HB.out.size; simp; omega
      · intro v' w2 hown' hgrow _
        have HW2 := Lib.hid hown'
        have HG2 := Lib.hid hgrow
        clear hown' hgrow hown
        go_wp2
        go_roundw
        case measure => simp [intOf]; omega
        case rel =>
          refine ⟨k + 1, by omega, by go_num, ?_, ?_⟩
          · rw [HX.out, ← HYS.out]; exact HW2.out
          · refine (HB.out.alloc HB.out.size _).grown HG2.out (by have := HB.out.size; simp; omega) ?_
            intro p hp
            exact (HO.out.lt p hp).1
    · obtain rfl : k = l.length := by omega
      clear hown
      go_wp2
      go_loopw [5, 7] (fun v5 i wr => ∃ k : Nat, k ≤ m.length ∧ i = .int .i64 k ∧ wr.ownsRow w.heap.size 9 1 v5 (l.length + k) ((l ++ m.take k).map encStr) ∧ Below w.heap.size w wr) (fun _ i _ => m.length - (intOf i).toNat)
      case atStart =>
        refine ⟨0, Nat.zero_le _, rfl, ?_, HB.out⟩
        have := HO.out
        rw [List.take_length] at this
        simpa using this
      case round =>
        obtain ⟨k, hk, rfl, hown, hbel⟩ := hrel
        clear HO HB
        have HO := Lib.hid hown
        have HB := Lib.hid hbel
        clear hbel
        by_cases hlt : k < m.length
        · rcases K3.out with ⟨e0, _⟩ | ⟨b, o, ha, h4, h5⟩
          · rw [e0] at hlt; exact absurd hlt (Nat.not_lt_zero _)
          subst ha
          have hc : wr.cell? ⟨b, o + k, none⟩ = some (.string (ba m[k])) := (HB.out.cell (p := ⟨b, o + k, none⟩) h4).trans (h5 k hlt)
          clear h5
          have hltz : (k : Int) < (m.length : Int) := by omega
          have HX := Lib.hid (take_next hlt)
          generalize ba m[k] = X at hc HX
          obtain ⟨YS, hYS⟩ : ∃ YS, YS = (l ++ m.take k).map encStr := ⟨_, rfl⟩
          rw [← hYS] at hown
          have HYS := Lib.hid hYS
          clear hYS
          obtain ⟨NN, hNN⟩ : ∃ NN, NN = l.length + k := ⟨_, rfl⟩
          rw [← hNN] at hown
          have HNN := Lib.hid hNN
          clear hNN
          go_wp2_with (at_builtin; refine wpList_append_own _ rfl _ _ 24 rfl w.heap.size 9 i0 _ 1 16 Try.underlying24 hi hz0 hz1 hz2 rfl (by decide) _ _ _ rfl (hown.alloc _) ⟨wr.heap.size, 0, none⟩ 1 1 [.string X] rfl rfl ?c1 ?c2 ?c3 ?c4 ?c5 ?_)
          case c1 =>
            intro j u hj
            match j, hj with
            | 0, hj => simp at hj; subst hj; simp [Addr.add]
          case c2 => intro u hu; simp at hu; subst hu; rfl
          case c3 => have := HBig.out; have := HNN.out; unfold maxLen; omega
          case c4 => have := HBig.out; have := HNN.out; omega
          case c5 => have := HB.out.size; simp; omega
          · intro v' w2 hown' hgrow _
            have HW2 := Lib.hid hown'
            have HG2 := Lib.hid hgrow
            clear hown' hgrow hown
            go_wp2
            go_roundw
            case measure => simp [intOf]; omega
            case rel =>
              refine ⟨k + 1, by omega, by go_num, ?_, ?_⟩
              · rw [List.map_append, HX.out, ← List.append_assoc, ← List.map_append, ← HYS.out, ← Nat.add_assoc, ← HNN.out]; exact HW2.out
              · refine (HB.out.alloc HB.out.size _).grown HG2.out (by have := HB.out.size; simp; omega) ?_
                intro p hp
                exact (HO.out.lt p hp).1
        · obtain rfl : k = m.length := by omega
          have hcall := HSort.out _ _ (by rw [List.length_append]; have := HO.out; rwa [List.take_length] at this) HB.out
          clear hown
          go_wp2_with (go_at_call 16; refine hcall.mono ?_; rintro e w2 ⟨v2, rfl, hown2, hbel2⟩)
          go_ret
          exact ⟨_, rfl, hown2, hbel2⟩

end Go.Proofs.Ytbbijhgiddbonaa
