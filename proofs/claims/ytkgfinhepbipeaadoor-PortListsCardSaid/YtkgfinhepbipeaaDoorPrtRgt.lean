/- The contracts of outText and Right. -/
import Derived.Test.YtkgfinhepbipeaaDoorPrtRead
import Derived.Test.YtkgfinhepbipeaaDoorDigText
import Derived.Test.YtkgfinhepbipeaaDoorRefPrt7
namespace Go.Proofs.YtkgfinhepbipeaaDoor
open Go.RowKit Go.Sort
open Nw Dg P16
set_option linter.unusedVariables false
/-- The text of the host's port: nothing for 0. -/
def outL (o : Int) : L8 := if o = 0 then [] else textL o
set_option maxRecDepth 100000 in
set_option maxHeartbeats 4000000 in
theorem outText_any (o : Int) (w : World) (h0 : 0 ≤ o) (h1 : o ≤ 65535) :
    Calls Tryd.prog 25 #[.int .i64 o] w fun e w' => e = .returned (.string (ba (outL o))) ∧ Below w.heap.size w w' := by
  by_cases h : o = 0
  · have HE : Hid (ba (outL o) = ⟨#[]⟩) := Lib.hid (by unfold outL; rw [if_pos h]; rfl)
    have e1 : (o == 0) = true := beq_iff_eq.2 h
    clear h
    rw [HE.out]
    go_enter Tryd.func25, Tryd.ntmps25
    go_wp2
    go_ret
    exact ⟨rfl, Below.refl _ _⟩
  · have HT := Lib.hid (fun w0 => Text_any o w0 (by omega) (by omega))
    obtain ⟨T, hT⟩ : ∃ T : ByteArray, (⟨(textL o).toArray⟩ : ByteArray) = T := ⟨_, rfl⟩
    have HE : Hid (ba (outL o) = T) := Lib.hid (by unfold outL; rw [if_neg h]; exact hT)
    rw [hT] at HT
    have e1 : (o == 0) = false := beq_eq_false_iff_ne.2 h
    clear hT
    rw [HE.out]
    go_enter Tryd.func25, Tryd.ntmps25
    go_wp2_with (go_at_call 24; refine (HT.out _).mono ?_; rintro e w1 ⟨rfl, hb⟩; have HB := Lib.hid hb; clear hb)
    go_ret
    exact ⟨rfl, HB.out⟩
theorem one_belowP (w : World) (c : Obj) : Below w.heap.size w (w.alloc c) := (Below.refl _ _).alloc (Nat.le_refl _) _
theorem eq_str {p : ByteArray} {q : ByteArray} (h : p = q) : (p.toList == q.toList) = true := by rw [h]; exact beq_self_eq_true _
theorem emp_noP {s : ByteArray} (h : ¬ s.size = 0) : s.toList.isEmpty = false := by
  rw [ByteArray.toList_eq, List.isEmpty_eq_false_iff]
  intro e
  have h2 : s.data.toList.length = s.size := rfl
  rw [e, List.length_nil] at h2
  omega
theorem emp_yesP {s : ByteArray} (h : s.size = 0) : s.toList.isEmpty = true := by
  rw [ByteArray.toList_eq, List.isEmpty_iff]
  exact List.length_eq_zero_iff.1 h
set_option maxRecDepth 100000 in
set_option maxHeartbeats 8000000 in
theorem Rgt_i1 (h pr : ByteArray) (o i : Int) (w : World) (h0 : ¬ 1 ≤ i) :
    Calls Tryd.prog 9 #[.agg #[.string h, .int .i64 o, .int .i64 i, .string pr]] w fun e w' => e = .returned (.bool false) ∧ Below w.heap.size w w' := by
  go_enter Tryd.func9, Tryd.ntmps9
  go_wp2
  go_ret
  exact ⟨rfl, one_belowP _ _⟩
set_option maxRecDepth 100000 in
set_option maxHeartbeats 8000000 in
theorem Rgt_i2 (h pr : ByteArray) (o i : Int) (w : World) (h0 : 1 ≤ i) (h1 : ¬ i ≤ 65535) :
    Calls Tryd.prog 9 #[.agg #[.string h, .int .i64 o, .int .i64 i, .string pr]] w fun e w' => e = .returned (.bool false) ∧ Below w.heap.size w w' := by
  go_enter Tryd.func9, Tryd.ntmps9
  go_wp2
  go_ret
  exact ⟨rfl, one_belowP _ _⟩
set_option maxRecDepth 100000 in
set_option maxHeartbeats 8000000 in
theorem Rgt_o1 (h pr : ByteArray) (o i : Int) (w : World) (h0 : 1 ≤ i) (h1 : i ≤ 65535) (h2 : ¬ 0 ≤ o) :
    Calls Tryd.prog 9 #[.agg #[.string h, .int .i64 o, .int .i64 i, .string pr]] w fun e w' => e = .returned (.bool false) ∧ Below w.heap.size w w' := by
  go_enter Tryd.func9, Tryd.ntmps9
  go_wp2
  go_ret
  exact ⟨rfl, one_belowP _ _⟩
set_option maxRecDepth 100000 in
set_option maxHeartbeats 8000000 in
theorem Rgt_o2 (h pr : ByteArray) (o i : Int) (w : World) (h0 : 1 ≤ i) (h1 : i ≤ 65535) (h2 : 0 ≤ o) (h3 : ¬ o ≤ 65535) :
    Calls Tryd.prog 9 #[.agg #[.string h, .int .i64 o, .int .i64 i, .string pr]] w fun e w' => e = .returned (.bool false) ∧ Below w.heap.size w w' := by
  go_enter Tryd.func9, Tryd.ntmps9
  go_wp2
  go_ret
  exact ⟨rfl, one_belowP _ _⟩
set_option maxRecDepth 100000 in
set_option maxHeartbeats 8000000 in
theorem Rgt_pr (h pr : ByteArray) (o i : Int) (w : World) (h0 : 1 ≤ i) (h1 : i ≤ 65535) (h2 : 0 ≤ o) (h3 : o ≤ 65535) (hp : ¬ pr = tcpS) (hq : ¬ pr = udpS) :
    Calls Tryd.prog 9 #[.agg #[.string h, .int .i64 o, .int .i64 i, .string pr]] w fun e w' => e = .returned (.bool false) ∧ Below w.heap.size w w' := by
  have e1 := str_fP hp
  have e2 := str_fP hq
  rw [show tcpS.toList = [116, 99, 112] from ByteArray.toList_eq _] at e1
  rw [show udpS.toList = [117, 100, 112] from ByteArray.toList_eq _] at e2
  clear hp hq
  go_enter Tryd.func9, Tryd.ntmps9
  go_wp2
  go_ret
  exact ⟨rfl, one_belowP _ _⟩
set_option maxRecDepth 100000 in
set_option maxHeartbeats 8000000 in
theorem Rgt_te (h pr : ByteArray) (o i : Int) (w : World) (h0 : 1 ≤ i) (h1 : i ≤ 65535) (h2 : 0 ≤ o) (h3 : o ≤ 65535) (hp : pr = tcpS) (hh : h.size = 0) :
    Calls Tryd.prog 9 #[.agg #[.string h, .int .i64 o, .int .i64 i, .string pr]] w fun e w' => e = .returned (.bool true) ∧ Below w.heap.size w w' := by
  have e3 := emp_yesP hh
  obtain rfl : h = ByteArray.empty := ba_extP (List.length_eq_zero_iff.1 hh)
  subst hp
  unfold tcpS
  go_enter Tryd.func9, Tryd.ntmps9
  go_wp2
  go_ret
  exact ⟨rfl, one_belowP _ _⟩
set_option maxRecDepth 100000 in
set_option maxHeartbeats 8000000 in
theorem Rgt_th (h pr : ByteArray) (o i : Int) (w : World) (h0 : 1 ≤ i) (h1 : i ≤ 65535) (h2 : 0 ≤ o) (h3 : o ≤ 65535) (hp : pr = tcpS) (hh : ¬ h.size = 0) (hs : h.size ≤ 100000) (hw : SomeMax w) (R : Bool) (hR : addrB h.data.toList = R) :
    Calls Tryd.prog 9 #[.agg #[.string h, .int .i64 o, .int .i64 i, .string pr]] w fun e w' => e = .returned (.bool R) ∧ Below w.heap.size w w' := by
  have e3 := emp_noP hh
  have e4 : ¬ h = ByteArray.empty := fun e => hh (by rw [e]; rfl)
  have HA := Lib.hid (fun w0 hw0 => isAddress_any h w0 hw0 hs)
  rw [hR] at HA
  have HW := Lib.hid (hw.keep (one_belowP w (.cells #[.string h, .int .i64 o, .int .i64 i, .string pr] 24)))
  have HB0 := Lib.hid (one_belowP w (.cells #[.string h, .int .i64 o, .int .i64 i, .string pr] 24))
  subst hp
  unfold tcpS at *
  clear hh hw hR
  go_enter Tryd.func9, Tryd.ntmps9
  go_wp2_with (go_at_call 23; refine (HA.out _ HW.out).mono ?_; rintro e w1 ⟨rfl, hb⟩; have HB := Lib.hid hb; clear hb)
  go_ret
  exact ⟨ret_bA (by first | rfl | simp), HB0.out.trans (HB.out.mono HB0.out.size)⟩
set_option maxRecDepth 100000 in
set_option maxHeartbeats 8000000 in
theorem Rgt_ue (h pr : ByteArray) (o i : Int) (w : World) (h0 : 1 ≤ i) (h1 : i ≤ 65535) (h2 : 0 ≤ o) (h3 : o ≤ 65535) (hp : pr = udpS) (hh : h.size = 0) :
    Calls Tryd.prog 9 #[.agg #[.string h, .int .i64 o, .int .i64 i, .string pr]] w fun e w' => e = .returned (.bool true) ∧ Below w.heap.size w w' := by
  have e3 := emp_yesP hh
  obtain rfl : h = ByteArray.empty := ba_extP (List.length_eq_zero_iff.1 hh)
  subst hp
  unfold udpS
  go_enter Tryd.func9, Tryd.ntmps9
  go_wp2
  go_ret
  exact ⟨rfl, one_belowP _ _⟩
set_option maxRecDepth 100000 in
set_option maxHeartbeats 8000000 in
theorem Rgt_uh (h pr : ByteArray) (o i : Int) (w : World) (h0 : 1 ≤ i) (h1 : i ≤ 65535) (h2 : 0 ≤ o) (h3 : o ≤ 65535) (hp : pr = udpS) (hh : ¬ h.size = 0) (hs : h.size ≤ 100000) (hw : SomeMax w) (R : Bool) (hR : addrB h.data.toList = R) :
    Calls Tryd.prog 9 #[.agg #[.string h, .int .i64 o, .int .i64 i, .string pr]] w fun e w' => e = .returned (.bool R) ∧ Below w.heap.size w w' := by
  have e3 := emp_noP hh
  have e4 : ¬ h = ByteArray.empty := fun e => hh (by rw [e]; rfl)
  have HA := Lib.hid (fun w0 hw0 => isAddress_any h w0 hw0 hs)
  rw [hR] at HA
  have HW := Lib.hid (hw.keep (one_belowP w (.cells #[.string h, .int .i64 o, .int .i64 i, .string pr] 24)))
  have HB0 := Lib.hid (one_belowP w (.cells #[.string h, .int .i64 o, .int .i64 i, .string pr] 24))
  subst hp
  unfold udpS at *
  clear hh hw hR
  go_enter Tryd.func9, Tryd.ntmps9
  go_wp2_with (go_at_call 23; refine (HA.out _ HW.out).mono ?_; rintro e w1 ⟨rfl, hb⟩; have HB := Lib.hid hb; clear hb)
  go_ret
  exact ⟨ret_bA (by first | rfl | simp), HB0.out.trans (HB.out.mono HB0.out.size)⟩
theorem rgt_eq (h pr : ByteArray) (o i : Int) : rightB ⟨h.data.toList, o, i, pr.data.toList⟩ = ((((decide (1 ≤ i) && decide (i ≤ 65535)) && (decide (0 ≤ o) && decide (o ≤ 65535))) && (decide (pr.data.toList = tcpL) || decide (pr.data.toList = udpL))) && (h.data.toList.isEmpty || addrB h.data.toList)) := rfl
theorem isEmp {h : ByteArray} (hh : h.size = 0) : h.data.toList.isEmpty = true := List.isEmpty_iff.2 (List.length_eq_zero_iff.1 hh)
theorem isEmp_no {h : ByteArray} (hh : ¬ h.size = 0) : h.data.toList.isEmpty = false := by
  rw [List.isEmpty_eq_false_iff]; intro e; apply hh; rw [show h.size = h.data.toList.length from rfl, e]; rfl
theorem Right_any (h pr : ByteArray) (o i : Int) (w : World) (hw : SomeMax w) (hs : h.size ≤ 100000) :
    Calls Tryd.prog 9 #[.agg #[.string h, .int .i64 o, .int .i64 i, .string pr]] w fun e w' => e = .returned (.bool (rightB ⟨h.data.toList, o, i, pr.data.toList⟩)) ∧ Below w.heap.size w w' := by
  rw [rgt_eq]
  by_cases h0 : 1 ≤ i
  case neg => rw [decide_eq_false h0]; exact Rgt_i1 h pr o i w h0
  by_cases h1 : i ≤ 65535
  case neg => rw [decide_eq_false h1, Bool.and_false]; exact Rgt_i2 h pr o i w h0 h1
  by_cases h2 : 0 ≤ o
  case neg => rw [decide_eq_false h2, Bool.false_and, Bool.and_false]; exact Rgt_o1 h pr o i w h0 h1 h2
  by_cases h3 : o ≤ 65535
  case neg => rw [decide_eq_false h3, Bool.and_false, Bool.and_false]; exact Rgt_o2 h pr o i w h0 h1 h2 h3
  rw [decide_eq_true h0, decide_eq_true h1, decide_eq_true h2, decide_eq_true h3]
  by_cases hp : pr = tcpS
  · rw [decide_eq_true (show pr.data.toList = tcpL by rw [hp]; rfl)]
    by_cases hh : h.size = 0
    · rw [isEmp hh]; exact Rgt_te h pr o i w h0 h1 h2 h3 hp hh
    · rw [isEmp_no hh]; exact Rgt_th h pr o i w h0 h1 h2 h3 hp hh hs hw _ rfl
  · by_cases hq : pr = udpS
    · rw [decide_eq_true (show pr.data.toList = udpL by rw [hq]; rfl), decide_eq_false (show ¬ pr.data.toList = tcpL by rw [hq]; decide)]
      by_cases hh : h.size = 0
      · rw [isEmp hh]; exact Rgt_ue h pr o i w h0 h1 h2 h3 hq hh
      · rw [isEmp_no hh]; exact Rgt_uh h pr o i w h0 h1 h2 h3 hq hh hs hw _ rfl
    · rw [decide_eq_false (show ¬ pr.data.toList = tcpL from fun e => hp (ba_extP e)), decide_eq_false (show ¬ pr.data.toList = udpL from fun e => hq (ba_extP e))]
      exact Rgt_pr h pr o i w h0 h1 h2 h3 hp hq
end Go.Proofs.YtkgfinhepbipeaaDoor
