/- The contracts of Text and Names; the laws over the program. -/
import Derived.Test.YtekfbnhicmfaaaaDoorTmpTxt
import Derived.Test.YtekfbnhicmfaaaaDoorTmpPts
import Derived.Test.YtekfbnhicmfaaaaDoorLawTmp2
namespace Go.Proofs.YtekfbnhicmfaaaaDoor
open Go.RowKit Go.Sort
open Nw T13 Go.ChangeShapes Go.WideShapes
set_option linter.unusedVariables false
theorem Grw.nil_below {t : TypeId} {w w1 : World} {base n : Nat} {v1 : Value} {xs : List Value} (h : Grw t w w1 base (.slice none 0 0) v1 n xs) : Below w.heap.size w w1 :=
  ⟨h.2.1.os, h.2.1.tape, h.2.1.output, h.2.1.size, fun k hk => h.2.1.block k hk fun e => by cases e⟩
theorem PwB.of {w w1 : World} (h : Pw13 w) (hb : Below w.heap.size w w1) : PwB w.heap.size w1 := by
  refine ⟨h.keep hb, ?_, ?_⟩
  · obtain ⟨m, hm⟩ := h.2
    exact World.block_lt_of_cell? _ _ hm
  · exact World.block_lt_of_cell? _ _ (h.1 0 (by decide))
theorem PtW.base {w w1 : World} {v : Value} {ps : List Pt} (h : PtW w v ps) (hb : Below w.heap.size w w1) : PtL (· < w.heap.size) w1 v ps := PtL.keep h fun b hlt => ⟨hlt, hb.block b hlt⟩
set_option maxRecDepth 100000 in
set_option maxHeartbeats 4000000 in
theorem Text13_any (v : Value) (ps : List Pt) (q : ByteArray) (w : World) (hw : Pw13 w) (h : PtW w v ps) (hwf : WfL 1 ps) (hc : cntL ps ≤ 100000) (hq : q.size ≤ 100000) (hql : q.data.toList = txtL ps) :
    Calls Tryd.prog 8 #[v] w fun e w' => e = .returned (.string q) ∧ Below w.heap.size w w' := by
  have hdp := depL_le ps 1 hwf
  have HE := Lib.hid (hasEnd_any 1000000 ps (by omega) (Nat.le_refl _) 65536 (by omega) (Nat.le_refl _) v w h)
  have hlen : (txtL ps).length = q.size := by rw [← hql, len13]
  have HA : Hid (∀ W, Below w.heap.size w W → Calls Tryd.prog 18 #[.slice none 0 0, v] W fun e w' => ∃ v', e = .returned v' ∧ Grw 5 W w' w.heap.size (.slice none 0 0) v' q.size (q.data.toList.map encB)) := Lib.hid (fun W hW => by
    have := appendParts_any 1000000 ps (by omega) 1 hwf [] 0 w.heap.size (.slice none 0 0) v W (PwB.of hw hW) (owns_nil _ _ _) hW.size (h.base hW) (by omega)
    rw [Nat.zero_add, List.nil_append, hlen, ← hql] at this
    exact this)
  have HC : Hid (∀ (W W' : World) (v' : Value), Grw 5 W W' w.heap.size (.slice none 0 0) v' q.size (q.data.toList.map encB) → (v' = .slice none 0 0 ∧ q = ⟨#[]⟩) ∨ ∃ g cap, v' = .slice (some ⟨g, 0, none⟩) q.size cap ∧ (convert 48 9 (.slice (some ⟨g, 0, none⟩) q.size cap)).run Tryd.prog W' = .ok (.string q) W') := Lib.hid (fun W W' v' hG => by
    rcases own_cases hG.1 with ⟨h1, h2⟩ | ⟨g, cap, h1, h2⟩
    · exact .inl ⟨h1, bytes_of (l := #[]) h2⟩
    · refine .inr ⟨g, cap, h1, ?_⟩
      rw [show (⟨q.data.toList.toArray⟩ : ByteArray) = q from bytes_ext (by simp)] at h2
      exact h2)
  clear h hwf hc hq hql hdp hlen hw
  go_enter Tryd.func8, Tryd.ntmps8
  go_upto_region 3 with (go_at_call 17; refine HE.out.mono ?_; rintro e W1 ⟨rfl, hb1⟩; have HB1 := Lib.hid hb1; clear hb1)
  go_wp2_with fail
  refine (HA.out _ HB1.out).mono ?_
  rintro e W2 ⟨v', rfl, hG⟩
  have HB2 := Lib.hid (HB1.out.trans (hG.nil_below.mono HB1.out.size))
  rcases HC.out _ _ _ hG with ⟨rfl, rfl⟩ | ⟨g, cap, rfl, hcv⟩
  · have hcv := conv_nil W2
    clear hG
    go_wp2
    go_ret
    exact ⟨rfl, HB2.out⟩
  · clear hG
    go_wp2
    go_ret
    exact ⟨rfl, HB2.out⟩
set_option maxRecDepth 100000 in
set_option maxHeartbeats 4000000 in
theorem Names13_any (v : Value) (ps : List Pt) (w : World) (h : PtW w v ps) (hwf : WfL 1 ps) (hc : cntL ps ≤ 100000) :
    Calls Tryd.prog 11 #[v] w fun e w' => ∃ v', e = .returned v' ∧ Rd w' v' (sortL (namL ps)) ∧ Below w.heap.size w w' := by
  have hdp := depL_le ps 1 hwf
  have hnl := namL_len ps
  have HE := Lib.hid (hasEnd_any 1000000 ps (by omega) (Nat.le_refl _) 65536 (by omega) (Nat.le_refl _) v w h)
  have HA : Hid (∀ W, Below w.heap.size w W → Calls Tryd.prog 21 #[.slice none 0 0, v] W fun e w' => ∃ v', e = .returned v' ∧ Rd w' v' (namL ps) ∧ Below W.heap.size W w') := Lib.hid (fun W hW => by
    have := appendNames_any 1000000 ps (by omega) 1 hwf [] 0 w.heap.size (.slice none 0 0) v W (owns_nil _ _ _) hW.size (h.base hW) (by omega)
    rw [Nat.zero_add, List.nil_append] at this
    refine this.mono ?_
    rintro e w' ⟨v', rfl, hG⟩
    exact ⟨v', rfl, rd_of_owns hG.1, hG.nil_below⟩)
  have HS := Lib.hid (fun (W : World) (v' : Value) (hr : Rd W v' (namL ps)) => Sorted_own v' (namL ps) W hr (by omega))
  obtain ⟨L, hL⟩ : ∃ L, sortL (namL ps) = L := ⟨_, rfl⟩
  rw [hL] at HS ⊢
  clear h hwf hc hdp hnl hL
  go_enter Tryd.func11, Tryd.ntmps11
  go_wp2_with first
    | (go_at_call 17; refine HE.out.mono ?_; rintro e W1 ⟨rfl, hb1⟩; have HB1 := Lib.hid hb1; clear hb1)
    | (go_at_call 21; refine (HA.out _ HB1.out).mono ?_; rintro e W2 ⟨v2, rfl, hr2, hb2⟩; have HR2 := Lib.hid hr2; have HB2 := Lib.hid (HB1.out.trans (hb2.mono HB1.out.size)); clear hr2 hb2)
    | (go_at_call 20; refine (HS.out _ _ HR2.out).mono ?_; rintro e W3 ⟨v3, rfl, ho3, hb3⟩; have HR3 := Lib.hid (rd_of_owns ho3); have HB3 := Lib.hid (HB2.out.trans (hb3.mono HB2.out.size)); clear ho3 hb3)
  go_ret
  exact ⟨_, rfl, HR3.out, HB3.out⟩
theorem TmplTells_row (s : ByteArray) (hs : s.size ≤ maxLen) (w : World) (hw : Pw13 w) : Calls Tryd.prog 3 #[.string s] w fun e w' => e = .returned (.bool true) ∧ Below w.heap.size w w' :=
  TmplTells_walk Pw13 (fun _ _ h hb => h.keep hb) (fun s W h hs => Parse13_any s W h.1 hs) (fun v ps q W h1 h2 h3 h4 h5 h6 => Text13_any v ps q W h1 h2 h3 h4 h5 h6) (fun v ps W _ h2 h3 h4 => Names13_any v ps W h2 h3 h4)
    (fun v ps W _ h2 h3 h4 => Deep13_any v ps W h2 h3 h4 (by have := depL_le ps 1 h3; omega)) s w hw hs
theorem TmplBack_row (s1 s2 : ByteArray) (hs1 : s1.size ≤ maxLen) (hs2 : s2.size ≤ maxLen) (w : World) (hw : Pw13 w) : Calls Tryd.prog 4 #[.string s1, .string s2] w fun e w' => e = .returned (.bool true) ∧ Below w.heap.size w w' :=
  TmplBack_walk Pw13 (fun _ _ h hb => h.keep hb) (fun s W h hs => Parse13_any s W h.1 hs) (fun v ps q W h1 h2 h3 h4 h5 h6 => Text13_any v ps q W h1 h2 h3 h4 h5 h6) s1 s2 w hw hs1 hs2
end Go.Proofs.YtekfbnhicmfaaaaDoor
