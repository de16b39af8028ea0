/- The contract of Join: the forms in a row of the call's own, then strings.Join. -/
import Derived.Test.YtfafoognjodeiaaDoorWrdWrt
import Derived.Test.YtfafoognjodeiaaDoorRefWrd2
import Derived.Test.YtfafoognjodeiaaDoorShelfJ
import Derived.OwnWalk
import Derived.Laws.OwnMore
import Derived.Lib.OwnBridge
import Derived.Deep.Cut
import Derived.Maps.AppendAt
namespace Go.Proofs.YtfafoognjodeiaaDoor
open Go.RowKit Go.Sort
open Nw W15
set_option linter.unusedVariables false
/-- The row behind i rounds. -/
def rowJ (l : List L8) (i : Nat) : List Value := (l.take i).map (fun x => encStr (qtL x)) ++ List.replicate (l.length - i) (.string ByteArray.empty)
theorem rowJ_len (l : List L8) {i : Nat} (h : i ≤ l.length) : (rowJ l i).length = l.length := by
  unfold rowJ
  rw [List.length_append, List.length_map, List.length_take, List.length_replicate]; omega
theorem rowJ_set (l : List L8) {i : Nat} (h : i < l.length) : (rowJ l i).set i (encStr (qtL (l[i]'h))) = rowJ l (i + 1) := by
  unfold rowJ
  have hl : ((l.take i).map fun x => encStr (qtL x)).length = i := by rw [List.length_map, List.length_take]; omega
  rw [List.set_append_right _ _ (by omega), hl, Nat.sub_self, List.take_succ_eq_append_getElem h, List.map_append]
  have h2 : l.length - i = (l.length - (i + 1)) + 1 := by omega
  rw [h2, List.replicate_succ, List.set_cons_zero]
  simp
theorem rowJ_end (l : List L8) : rowJ l l.length = l.map fun x => encStr (qtL x) := by
  unfold rowJ
  rw [List.take_length, Nat.sub_self, List.replicate_zero, List.append_nil]
theorem joinLib (ws : List L8) : Lib.join (ws.map qtL) [32] = jnL ws := by
  cases ws with
  | nil => rfl
  | cons w ws =>
    rw [List.map_cons, Lib.join_cons, jnL, Lib.joinTail, List.map_map, List.flatMap_def]
    rfl
theorem costs_len (l : List L8) : l.length ≤ costs l := by
  induction l with
  | nil => exact Nat.le_refl _
  | cons x l ih =>
    have : costs (x :: l) = cost x + costs l := by simp [costs]
    have : 1 ≤ cost x := by unfold cost; omega
    rw [List.length_cons]; omega
/-- What holds behind i rounds. -/
def JoS (w0 W : World) (l : List L8) (n i : Nat) : Prop := Below w0.heap.size w0 W ∧ W.ownsRow w0.heap.size 9 1 (.slice (some ⟨w0.heap.size, 0, none⟩) n n) n (rowJ l i)
section
variable {w0 W W2 : World} {l : List L8} {n i : Nat}
theorem JoS.below (h : JoS w0 W l n i) (hb : Below W.heap.size W W2) : JoS w0 W2 l n i := ⟨h.1.trans (hb.mono h.1.size), own_belW h.2 hb⟩
theorem JoS.facts (h : JoS w0 W l n i) (hn : n = l.length) (hi : i < n) : W.cell? ⟨w0.heap.size, i, none⟩ = some (.string ByteArray.empty) ∧ W.frozen? ⟨w0.heap.size, i, none⟩ = false := by
  refine ⟨?_, h.2.frozenAt i⟩
  rw [h.2.cellAt i (by omega)]
  unfold rowJ
  have hl : ((l.take i).map fun x => encStr (qtL x)).length = i := by rw [List.length_map, List.length_take]; omega
  rw [List.getElem?_append_right (by omega), hl, Nat.sub_self, List.getElem?_replicate, if_pos (by omega)]
theorem JoS.store (h : JoS w0 W l n i) (hn : n = l.length) (hi : i < l.length) {q : ByteArray} (hq : q = ba (qtL (l[i]'hi))) : JoS w0 (W.setCell ⟨w0.heap.size, i, none⟩ (.string q)) l n (i + 1) := by
  obtain ⟨h1, h2⟩ := h.2.stored i (.string q)
  refine ⟨h.1.grown h2 h.1.size fun g hg => ?_, ?_⟩
  · injection hg with hg; omega
  · rw [← rowJ_set l hi]
    rw [hq] at h1 ⊢
    exact h1
end
set_option maxRecDepth 100000 in
set_option maxHeartbeats 8000000 in
theorem Join15_any (v : Value) (l : List L8) (w : World) (hw : SomeMax w) (hl : Rd w v l) (hc : costs l ≤ 100000) :
    Calls Tryd.prog 13 #[v] w fun e w' => e = .returned (.string (ba (jnL l))) ∧ Below w.heap.size w w' := by
  obtain ⟨i0, hi0, hz0, hz1, hz2⟩ := infoSW
  obtain ⟨a, cap, rfl, h1, h2, -⟩ := id hl
  unfold maxLen at h2
  obtain ⟨n, hn⟩ : ∃ n, n = l.length := ⟨_, rfl⟩
  have HN : Hid (n = l.length) := Lib.hid hn
  have HRD := Lib.hid hl
  rw [← hn] at h1 HRD ⊢
  have HC := Lib.hid hc
  have HW := Lib.hid hw
  have hn1 : n ≤ 100000 := by have := costs_len l; omega
  obtain ⟨Q, hQ⟩ : ∃ Q, ba (jnL l) = Q := ⟨_, rfl⟩
  have HQ := Lib.hid hQ
  rw [hQ]
  clear hl hc hn hw hQ
  go_enter Tryd.func13, Tryd.ntmps13
  go_wp2_with (at_make; refine wpList_make_full _ rfl _ _ 23 rfl w.heap.size 9 i0 _ 1 Tryd.underlying23 hi0 hz0 hz1 _ _ _ _ n rfl rfl rfl rfl ?b2 ?b3 (Nat.le_refl _) ?_)
  case b2 => rw [hz2]; omega
  case b3 => unfold maxLen; omega
  intro w1 hown hgr
  have HJ0 : Hid (JoS w w1 l n 0) := Lib.hid ⟨(Below.refl _ _).grown hgr (Nat.le_refl _) fun g hg => (by cases hg), by
    unfold rowJ
    rw [List.take_zero, List.map_nil, List.nil_append, Nat.sub_zero, ← HN.out]
    rw [toList_madeCells_one] at hown
    exact hown⟩
  clear hown hgr
  go_wp2
  go_loopw [11] (fun si wr => ∃ i : Nat, i ≤ n ∧ si = .int .i64 (i : Int) ∧ Hid (JoS w wr l n i)) (fun si _ => n - (intOf si).toNat)
  case atStart => exact ⟨0, Nat.zero_le _, rfl, HJ0⟩
  case round =>
    clear HJ0
    obtain ⟨i, hi, rfl, HJ⟩ := hrel
    by_cases hlt : i < n
    · have hll : Hid (i < l.length) := Lib.hid (by have := HN.out; omega)
      have HRr := Lib.hid (HRD.out.below HJ.out.1)
      obtain ⟨a', cap', he, _, _, h3⟩ := HRr.out
      rw [← HN.out] at he
      cases he
      rcases h3 with ⟨e, _⟩ | ⟨b, o, rfl, h4, h5⟩
      · exact absurd hll.out (by rw [e]; exact Nat.not_lt_zero _)
      have hcl := h5 i hll.out
      clear h5
      have hiz : (i : Int) < (n : Int) := by omega
      have hic : (i : Int) < (cap : Int) := by omega
      have iw : IntKind.i64.wrap ((i : Int) + 1) = (i : Int) + 1 := IntWalk.i64_in _ (by omega)
      obtain ⟨X, hX⟩ : ∃ X, ba (l[i]'hll.out) = X := ⟨_, rfl⟩
      rw [hX] at hcl
      have hxs : X.size ≤ 200000 := by
        have h6 := costs_at hll.out
        have h7 : cost (l[i]'hll.out) = 4 * X.size + 3 := by unfold cost; rw [← hX, ba_sizeW]
        have := HC.out
        omega
      have HWR := Lib.hid (HW.out.keep HJ.out.1)
      have HWT := Lib.hid (written_any X wr HWR.out hxs)
      obtain ⟨q, hq⟩ : ∃ q, ba (qtL X.data.toList) = q := ⟨_, rfl⟩
      rw [hq] at HWT
      have HQX : Hid (q = ba (qtL (l[i]'hll.out))) := Lib.hid (by rw [← hq, ← hX, ba_dataW])
      clear hX hq
      go_upto_region 5 with fail
      go_wp2_with (go_at_call 20; refine HWT.out.mono ?_; rintro e w2 ⟨rfl, b2⟩; have HJ2 := Lib.hid (HJ.out.below b2); have hcl2 := (HJ2.out.facts HN.out hlt).1; have hfr2 := (HJ2.out.facts HN.out hlt).2; clear b2)
      go_roundw
      case rel => exact ⟨i + 1, by omega, by go_num, Lib.hid (HJ2.out.store HN.out hll.out HQX.out)⟩
      case measure => simp [intOf]; omega
    · obtain rfl : i = n := by omega
      have HF : Hid (Calls Tryd.prog 21 #[.slice (some ⟨w.heap.size, 0, none⟩) i i, .string ⟨#[32]⟩] wr fun e w' => e = .returned (.string Q) ∧ Below wr.heap.size wr w') := Lib.hid (by
        have hj := HJ.out
        have hrow := hj.2
        rw [HN.out, rowJ_end] at hrow
        have hk : (l.map fun x => ba (qtL x)).length = i := by rw [List.length_map]; exact HN.out.symm
        have hmm : ((l.map fun x => ba (qtL x)).map fun x => x.data.toList) = l.map qtL := by
          rw [List.map_map]; exact List.map_congr_left fun x _ => ba_dataW _
        have h9 := Tryd.strings_Join w.heap.size 0 i (l.map fun x => ba (qtL x)) ⟨#[32]⟩ wr (fun j x hx => by
            rw [List.getElem?_map] at hx
            obtain ⟨y, hy, rfl⟩ := Option.map_eq_some_iff.1 hx
            have hjl := (List.getElem?_eq_some_iff.1 hy).1
            rw [Nat.zero_add, hrow.cellAt j (by omega), List.getElem?_map, hy]; rfl) (hrow.lt _ rfl).2 (by omega) (by omega) (by
            rw [hmm, show (⟨#[32]⟩ : ByteArray).data.toList = [32] from rfl, joinLib]
            have := jnL_len l
            have := HC.out
            omega)
        rw [hk, hmm, show (⟨#[32]⟩ : ByteArray).data.toList = [32] from rfl, joinLib] at h9
        rw [← HQ.out]
        exact h9)
      go_wp2_with (go_at_call 21; refine HF.out.mono ?_; rintro e w2 ⟨rfl, b2⟩)
      go_ret
      exact ⟨rfl, HJ.out.1.trans (b2.mono HJ.out.1.size)⟩
end Go.Proofs.YtfafoognjodeiaaDoor
