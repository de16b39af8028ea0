/- The contract of Text. -/
import Derived.Test.YtkgfinhepbipeaaDoorPrtRgt
namespace Go.Proofs.YtkgfinhepbipeaaDoor
open Go.RowKit Go.Sort
open Nw Dg P16
set_option linter.unusedVariables false
set_option linter.unusedSimpArgs false
theorem outL_size {n : Int} (h : 0 ≤ n) (hm : n ≤ 65535) : (outL n).length ≤ 6 := by
  unfold outL
  split
  · exact Nat.zero_le _
  · exact textL_size h hm
set_option maxRecDepth 100000 in
set_option maxHeartbeats 4000000 in
theorem Text16_no (h pr : ByteArray) (o i : Int) (w : World) (hw : SomeMax w) (hs : h.size ≤ 100000) (hr : rightB ⟨h.data.toList, o, i, pr.data.toList⟩ = false) :
    Calls Tryd.prog 10 #[.agg #[.string h, .int .i64 o, .int .i64 i, .string pr]] w fun e w' => e = .returned (.string ⟨#[]⟩) ∧ Below w.heap.size w w' := by
  have HR := Lib.hid (fun w0 hw0 => Right_any h pr o i w0 hw0 hs)
  rw [hr] at HR
  have HW := Lib.hid (hw.keep (one_belowP w (.cells #[.string h, .int .i64 o, .int .i64 i, .string pr] 24)))
  have B0 : Hid (∀ c, Below w.heap.size w (w.alloc c)) := Lib.hid (fun c => (Below.refl _ _).alloc (Nat.le_refl _) _)
  clear hr hw
  go_enter Tryd.func10, Tryd.ntmps10
  go_wp2_with (go_at_call 9; refine (HR.out _ HW.out).mono ?_; rintro e w3 ⟨rfl, hb⟩; have HB := Lib.hid hb; clear hb)
  go_ret
  exact ⟨rfl, (B0.out _).trans (HB.out.mono (by simp))⟩
set_option maxRecDepth 100000 in
set_option maxHeartbeats 8000000 in
theorem Text16_hnt (h : ByteArray) (o i : Int) (w : World) (hw : SomeMax w) (hs : h.size ≤ 100000) (hz : h.data.toList ≠ []) (hr : rightB ⟨h.data.toList, o, i, tcpL⟩ = true) (ho : ¬ 0 < o) :
    Calls Tryd.prog 10 #[.agg #[.string h, .int .i64 o, .int .i64 i, .string ⟨#[116, 99, 112]⟩]] w fun e w' => e = .returned (.string (ba (textP ⟨h.data.toList, o, i, tcpL⟩))) ∧ Below w.heap.size w w' := by
  have HR := Lib.hid (fun w0 hw0 => Right_any h ⟨#[116, 99, 112]⟩ o i w0 hw0 hs)
  have e0 : rightB ⟨(h : ByteArray).data.toList, o, i, (⟨#[116, 99, 112]⟩ : ByteArray).data.toList⟩ = true := hr
  rw [e0] at HR
  clear e0
  obtain ⟨f1, f2, f3, f4, _, _⟩ := right_facts hr
  have f1 : 1 ≤ i := f1
  have f2 : i ≤ 65535 := f2
  have f3 : 0 ≤ o := f3
  have f4 : o ≤ 65535 := f4
  have HX : Hid (textP ⟨h.data.toList, o, i, tcpL⟩ = h.data.toList ++ [58] ++ [58] ++ textL i) := Lib.hid (by
    rw [textP_yes hr]
    simp [hz, ho, show (tcpL = udpL) = False from eq_false (by decide)])
  obtain ⟨OU, hOU⟩ : ∃ OU : ByteArray, ba (outL o) = OU := ⟨_, rfl⟩
  have HO := Lib.hid (fun w0 => outText_any o w0 f3 f4)
  rw [hOU] at HO
  have HOU : Hid (OU.data.toList = []) := Lib.hid (by rw [← hOU, ba_data]; exact if_pos (by omega))
  have hOUs : OU.size ≤ 6 := by rw [← hOU]; show (ba (outL o)).data.toList.length ≤ 6; rw [ba_data]; exact outL_size f3 f4
  obtain ⟨IN, hIN⟩ : ∃ IN : ByteArray, (⟨(textL i).toArray⟩ : ByteArray) = IN := ⟨_, rfl⟩
  have HT := Lib.hid (fun w0 => Text_any i w0 (by omega) (by omega))
  rw [hIN] at HT
  have HIN : Hid (IN.data.toList = textL i) := Lib.hid (by rw [← hIN])
  have hINs : IN.size ≤ 6 := by rw [← hIN]; exact textL_size (by omega) f2
  clear hOU hIN
  have HW := Lib.hid hw
  have B0 : Hid (∀ c, Below w.heap.size w (w.alloc c)) := Lib.hid (fun c => (Below.refl _ _).alloc (Nat.le_refl _) _)
  have o1 : (o == 0) = true := beq_iff_eq.2 (by omega)
  have o2 : (o != 0) = false := by rw [bne, o1]; rfl
  have k0 : (9223372036854775807 < OU.size + 1) = False := eq_false (by omega)
  have k1 : (9223372036854775807 < OU.size + 1 + IN.size) = False := eq_false (by omega)
  have k2 : (9223372036854775807 < OU.size + 1 + IN.size + 4) = False := eq_false (by omega)
  have k3 : (9223372036854775807 < IN.size + 4) = False := eq_false (by omega)
  obtain ⟨n, hn⟩ : ∃ n, h.size = n := ⟨_, rfl⟩
  have HN := Lib.hid hn
  have hz0 : ¬ h.size = 0 := fun e => hz (List.length_eq_zero_iff.1 e)
  have e3 := emp_noP hz0
  have e4 : ¬ h = ByteArray.empty := fun e => hz0 (by rw [e]; rfl)
  have k4 : (9223372036854775807 < n + 1) = False := eq_false (by omega)
  have k5 : (9223372036854775807 < n + 1 + (OU.size + 1 + IN.size)) = False := eq_false (by omega)
  have k6 : (9223372036854775807 < n + 1 + (OU.size + 1 + IN.size) + 4) = False := eq_false (by omega)
  clear hz hz0
  clear hr hw ho
  obtain ⟨X, hX⟩ : ∃ X, textP ⟨h.data.toList, o, i, tcpL⟩ = X := ⟨_, rfl⟩
  rw [hX] at HX
  rw [hX]
  clear hX
  go_enter Tryd.func10, Tryd.ntmps10
  go_wp2_with first
    | (go_at_call 9; refine (HR.out _ (HW.out.keep (B0.out _))).mono ?_; rintro e w3 ⟨rfl, hb⟩; have HB := Lib.hid ((B0.out _).trans (hb.mono (by simp))); have HQ := Lib.hid ((bx4_new _ _ _ _ _ _).below hb); clear hb; obtain ⟨q0, q1, q2, q3, q4⟩ := HQ.out)
    | (go_at_call 24; refine (HT.out _).mono ?_; rintro e w3 ⟨rfl, hb⟩; clear q0 q1 q2 q3 q4; replace HB := Lib.hid (HB.out.trans (hb.mono HB.out.size)); replace HQ := Lib.hid (HQ.out.below hb); clear hb; obtain ⟨q0, q1, q2, q3, q4⟩ := HQ.out)
    | (go_at_call 25; refine (HO.out _).mono ?_; rintro e w3 ⟨rfl, hb⟩; clear q0 q1 q2 q3 q4; replace HB := Lib.hid (HB.out.trans (hb.mono HB.out.size)); replace HQ := Lib.hid (HQ.out.below hb); clear hb; obtain ⟨q0, q1, q2, q3, q4⟩ := HQ.out)
  go_ret
  exact ⟨ret_sP (ba_extP (by simp [HX.out, HIN.out, HOU.out, ba_data])), HB.out⟩
set_option maxRecDepth 100000 in
set_option maxHeartbeats 8000000 in
theorem Text16_hnu (h : ByteArray) (o i : Int) (w : World) (hw : SomeMax w) (hs : h.size ≤ 100000) (hz : h.data.toList ≠ []) (hr : rightB ⟨h.data.toList, o, i, udpL⟩ = true) (ho : ¬ 0 < o) :
    Calls Tryd.prog 10 #[.agg #[.string h, .int .i64 o, .int .i64 i, .string ⟨#[117, 100, 112]⟩]] w fun e w' => e = .returned (.string (ba (textP ⟨h.data.toList, o, i, udpL⟩))) ∧ Below w.heap.size w w' := by
  have HR := Lib.hid (fun w0 hw0 => Right_any h ⟨#[117, 100, 112]⟩ o i w0 hw0 hs)
  have e0 : rightB ⟨(h : ByteArray).data.toList, o, i, (⟨#[117, 100, 112]⟩ : ByteArray).data.toList⟩ = true := hr
  rw [e0] at HR
  clear e0
  obtain ⟨f1, f2, f3, f4, _, _⟩ := right_facts hr
  have f1 : 1 ≤ i := f1
  have f2 : i ≤ 65535 := f2
  have f3 : 0 ≤ o := f3
  have f4 : o ≤ 65535 := f4
  have HX : Hid (textP ⟨h.data.toList, o, i, udpL⟩ = h.data.toList ++ [58] ++ [58] ++ textL i ++ (47 :: udpL)) := Lib.hid (by
    rw [textP_yes hr]
    simp [hz, ho, show (tcpL = udpL) = False from eq_false (by decide)])
  obtain ⟨OU, hOU⟩ : ∃ OU : ByteArray, ba (outL o) = OU := ⟨_, rfl⟩
  have HO := Lib.hid (fun w0 => outText_any o w0 f3 f4)
  rw [hOU] at HO
  have HOU : Hid (OU.data.toList = []) := Lib.hid (by rw [← hOU, ba_data]; exact if_pos (by omega))
  have hOUs : OU.size ≤ 6 := by rw [← hOU]; show (ba (outL o)).data.toList.length ≤ 6; rw [ba_data]; exact outL_size f3 f4
  obtain ⟨IN, hIN⟩ : ∃ IN : ByteArray, (⟨(textL i).toArray⟩ : ByteArray) = IN := ⟨_, rfl⟩
  have HT := Lib.hid (fun w0 => Text_any i w0 (by omega) (by omega))
  rw [hIN] at HT
  have HIN : Hid (IN.data.toList = textL i) := Lib.hid (by rw [← hIN])
  have hINs : IN.size ≤ 6 := by rw [← hIN]; exact textL_size (by omega) f2
  clear hOU hIN
  have HW := Lib.hid hw
  have B0 : Hid (∀ c, Below w.heap.size w (w.alloc c)) := Lib.hid (fun c => (Below.refl _ _).alloc (Nat.le_refl _) _)
  have o1 : (o == 0) = true := beq_iff_eq.2 (by omega)
  have o2 : (o != 0) = false := by rw [bne, o1]; rfl
  have k0 : (9223372036854775807 < OU.size + 1) = False := eq_false (by omega)
  have k1 : (9223372036854775807 < OU.size + 1 + IN.size) = False := eq_false (by omega)
  have k2 : (9223372036854775807 < OU.size + 1 + IN.size + 4) = False := eq_false (by omega)
  have k3 : (9223372036854775807 < IN.size + 4) = False := eq_false (by omega)
  obtain ⟨n, hn⟩ : ∃ n, h.size = n := ⟨_, rfl⟩
  have HN := Lib.hid hn
  have hz0 : ¬ h.size = 0 := fun e => hz (List.length_eq_zero_iff.1 e)
  have e3 := emp_noP hz0
  have e4 : ¬ h = ByteArray.empty := fun e => hz0 (by rw [e]; rfl)
  have k4 : (9223372036854775807 < n + 1) = False := eq_false (by omega)
  have k5 : (9223372036854775807 < n + 1 + (OU.size + 1 + IN.size)) = False := eq_false (by omega)
  have k6 : (9223372036854775807 < n + 1 + (OU.size + 1 + IN.size) + 4) = False := eq_false (by omega)
  clear hz hz0
  clear hr hw ho
  obtain ⟨X, hX⟩ : ∃ X, textP ⟨h.data.toList, o, i, udpL⟩ = X := ⟨_, rfl⟩
  rw [hX] at HX
  rw [hX]
  clear hX
  go_enter Tryd.func10, Tryd.ntmps10
  go_wp2_with first
    | (go_at_call 9; refine (HR.out _ (HW.out.keep (B0.out _))).mono ?_; rintro e w3 ⟨rfl, hb⟩; have HB := Lib.hid ((B0.out _).trans (hb.mono (by simp))); have HQ := Lib.hid ((bx4_new _ _ _ _ _ _).below hb); clear hb; obtain ⟨q0, q1, q2, q3, q4⟩ := HQ.out)
    | (go_at_call 24; refine (HT.out _).mono ?_; rintro e w3 ⟨rfl, hb⟩; clear q0 q1 q2 q3 q4; replace HB := Lib.hid (HB.out.trans (hb.mono HB.out.size)); replace HQ := Lib.hid (HQ.out.below hb); clear hb; obtain ⟨q0, q1, q2, q3, q4⟩ := HQ.out)
    | (go_at_call 25; refine (HO.out _).mono ?_; rintro e w3 ⟨rfl, hb⟩; clear q0 q1 q2 q3 q4; replace HB := Lib.hid (HB.out.trans (hb.mono HB.out.size)); replace HQ := Lib.hid (HQ.out.below hb); clear hb; obtain ⟨q0, q1, q2, q3, q4⟩ := HQ.out)
  go_ret
  exact ⟨ret_sP (ba_extP (by simp [HX.out, HIN.out, HOU.out, ba_data, udpL])), HB.out⟩
set_option maxRecDepth 100000 in
set_option maxHeartbeats 8000000 in
theorem Text16_hot (h : ByteArray) (o i : Int) (w : World) (hw : SomeMax w) (hs : h.size ≤ 100000) (hz : h.data.toList ≠ []) (hr : rightB ⟨h.data.toList, o, i, tcpL⟩ = true) (ho : 0 < o) :
    Calls Tryd.prog 10 #[.agg #[.string h, .int .i64 o, .int .i64 i, .string ⟨#[116, 99, 112]⟩]] w fun e w' => e = .returned (.string (ba (textP ⟨h.data.toList, o, i, tcpL⟩))) ∧ Below w.heap.size w w' := by
  have HR := Lib.hid (fun w0 hw0 => Right_any h ⟨#[116, 99, 112]⟩ o i w0 hw0 hs)
  have e0 : rightB ⟨(h : ByteArray).data.toList, o, i, (⟨#[116, 99, 112]⟩ : ByteArray).data.toList⟩ = true := hr
  rw [e0] at HR
  clear e0
  obtain ⟨f1, f2, f3, f4, _, _⟩ := right_facts hr
  have f1 : 1 ≤ i := f1
  have f2 : i ≤ 65535 := f2
  have f3 : 0 ≤ o := f3
  have f4 : o ≤ 65535 := f4
  have HX : Hid (textP ⟨h.data.toList, o, i, tcpL⟩ = h.data.toList ++ [58] ++ textL o ++ [58] ++ textL i) := Lib.hid (by
    rw [textP_yes hr]
    simp [hz, ho, show (tcpL = udpL) = False from eq_false (by decide)])
  obtain ⟨OU, hOU⟩ : ∃ OU : ByteArray, ba (outL o) = OU := ⟨_, rfl⟩
  have HO := Lib.hid (fun w0 => outText_any o w0 f3 f4)
  rw [hOU] at HO
  have HOU : Hid (OU.data.toList = textL o) := Lib.hid (by rw [← hOU, ba_data]; exact if_neg (by omega))
  have hOUs : OU.size ≤ 6 := by rw [← hOU]; show (ba (outL o)).data.toList.length ≤ 6; rw [ba_data]; exact outL_size f3 f4
  obtain ⟨IN, hIN⟩ : ∃ IN : ByteArray, (⟨(textL i).toArray⟩ : ByteArray) = IN := ⟨_, rfl⟩
  have HT := Lib.hid (fun w0 => Text_any i w0 (by omega) (by omega))
  rw [hIN] at HT
  have HIN : Hid (IN.data.toList = textL i) := Lib.hid (by rw [← hIN])
  have hINs : IN.size ≤ 6 := by rw [← hIN]; exact textL_size (by omega) f2
  clear hOU hIN
  have HW := Lib.hid hw
  have B0 : Hid (∀ c, Below w.heap.size w (w.alloc c)) := Lib.hid (fun c => (Below.refl _ _).alloc (Nat.le_refl _) _)
  have o1 : (o == 0) = false := beq_eq_false_iff_ne.2 (by omega)
  have o2 : (o != 0) = true := bne_iff_ne.2 (by omega)
  have k0 : (9223372036854775807 < OU.size + 1) = False := eq_false (by omega)
  have k1 : (9223372036854775807 < OU.size + 1 + IN.size) = False := eq_false (by omega)
  have k2 : (9223372036854775807 < OU.size + 1 + IN.size + 4) = False := eq_false (by omega)
  have k3 : (9223372036854775807 < IN.size + 4) = False := eq_false (by omega)
  obtain ⟨n, hn⟩ : ∃ n, h.size = n := ⟨_, rfl⟩
  have HN := Lib.hid hn
  have hz0 : ¬ h.size = 0 := fun e => hz (List.length_eq_zero_iff.1 e)
  have e3 := emp_noP hz0
  have e4 : ¬ h = ByteArray.empty := fun e => hz0 (by rw [e]; rfl)
  have k4 : (9223372036854775807 < n + 1) = False := eq_false (by omega)
  have k5 : (9223372036854775807 < n + 1 + (OU.size + 1 + IN.size)) = False := eq_false (by omega)
  have k6 : (9223372036854775807 < n + 1 + (OU.size + 1 + IN.size) + 4) = False := eq_false (by omega)
  clear hz hz0
  clear hr hw ho
  obtain ⟨X, hX⟩ : ∃ X, textP ⟨h.data.toList, o, i, tcpL⟩ = X := ⟨_, rfl⟩
  rw [hX] at HX
  rw [hX]
  clear hX
  go_enter Tryd.func10, Tryd.ntmps10
  go_wp2_with first
    | (go_at_call 9; refine (HR.out _ (HW.out.keep (B0.out _))).mono ?_; rintro e w3 ⟨rfl, hb⟩; have HB := Lib.hid ((B0.out _).trans (hb.mono (by simp))); have HQ := Lib.hid ((bx4_new _ _ _ _ _ _).below hb); clear hb; obtain ⟨q0, q1, q2, q3, q4⟩ := HQ.out)
    | (go_at_call 24; refine (HT.out _).mono ?_; rintro e w3 ⟨rfl, hb⟩; clear q0 q1 q2 q3 q4; replace HB := Lib.hid (HB.out.trans (hb.mono HB.out.size)); replace HQ := Lib.hid (HQ.out.below hb); clear hb; obtain ⟨q0, q1, q2, q3, q4⟩ := HQ.out)
    | (go_at_call 25; refine (HO.out _).mono ?_; rintro e w3 ⟨rfl, hb⟩; clear q0 q1 q2 q3 q4; replace HB := Lib.hid (HB.out.trans (hb.mono HB.out.size)); replace HQ := Lib.hid (HQ.out.below hb); clear hb; obtain ⟨q0, q1, q2, q3, q4⟩ := HQ.out)
  go_ret
  exact ⟨ret_sP (ba_extP (by simp [HX.out, HIN.out, HOU.out, ba_data])), HB.out⟩
set_option maxRecDepth 100000 in
set_option maxHeartbeats 8000000 in
theorem Text16_hou (h : ByteArray) (o i : Int) (w : World) (hw : SomeMax w) (hs : h.size ≤ 100000) (hz : h.data.toList ≠ []) (hr : rightB ⟨h.data.toList, o, i, udpL⟩ = true) (ho : 0 < o) :
    Calls Tryd.prog 10 #[.agg #[.string h, .int .i64 o, .int .i64 i, .string ⟨#[117, 100, 112]⟩]] w fun e w' => e = .returned (.string (ba (textP ⟨h.data.toList, o, i, udpL⟩))) ∧ Below w.heap.size w w' := by
  have HR := Lib.hid (fun w0 hw0 => Right_any h ⟨#[117, 100, 112]⟩ o i w0 hw0 hs)
  have e0 : rightB ⟨(h : ByteArray).data.toList, o, i, (⟨#[117, 100, 112]⟩ : ByteArray).data.toList⟩ = true := hr
  rw [e0] at HR
  clear e0
  obtain ⟨f1, f2, f3, f4, _, _⟩ := right_facts hr
  have f1 : 1 ≤ i := f1
  have f2 : i ≤ 65535 := f2
  have f3 : 0 ≤ o := f3
  have f4 : o ≤ 65535 := f4
  have HX : Hid (textP ⟨h.data.toList, o, i, udpL⟩ = h.data.toList ++ [58] ++ textL o ++ [58] ++ textL i ++ (47 :: udpL)) := Lib.hid (by
    rw [textP_yes hr]
    simp [hz, ho, show (tcpL = udpL) = False from eq_false (by decide)])
  obtain ⟨OU, hOU⟩ : ∃ OU : ByteArray, ba (outL o) = OU := ⟨_, rfl⟩
  have HO := Lib.hid (fun w0 => outText_any o w0 f3 f4)
  rw [hOU] at HO
  have HOU : Hid (OU.data.toList = textL o) := Lib.hid (by rw [← hOU, ba_data]; exact if_neg (by omega))
  have hOUs : OU.size ≤ 6 := by rw [← hOU]; show (ba (outL o)).data.toList.length ≤ 6; rw [ba_data]; exact outL_size f3 f4
  obtain ⟨IN, hIN⟩ : ∃ IN : ByteArray, (⟨(textL i).toArray⟩ : ByteArray) = IN := ⟨_, rfl⟩
  have HT := Lib.hid (fun w0 => Text_any i w0 (by omega) (by omega))
  rw [hIN] at HT
  have HIN : Hid (IN.data.toList = textL i) := Lib.hid (by rw [← hIN])
  have hINs : IN.size ≤ 6 := by rw [← hIN]; exact textL_size (by omega) f2
  clear hOU hIN
  have HW := Lib.hid hw
  have B0 : Hid (∀ c, Below w.heap.size w (w.alloc c)) := Lib.hid (fun c => (Below.refl _ _).alloc (Nat.le_refl _) _)
  have o1 : (o == 0) = false := beq_eq_false_iff_ne.2 (by omega)
  have o2 : (o != 0) = true := bne_iff_ne.2 (by omega)
  have k0 : (9223372036854775807 < OU.size + 1) = False := eq_false (by omega)
  have k1 : (9223372036854775807 < OU.size + 1 + IN.size) = False := eq_false (by omega)
  have k2 : (9223372036854775807 < OU.size + 1 + IN.size + 4) = False := eq_false (by omega)
  have k3 : (9223372036854775807 < IN.size + 4) = False := eq_false (by omega)
  obtain ⟨n, hn⟩ : ∃ n, h.size = n := ⟨_, rfl⟩
  have HN := Lib.hid hn
  have hz0 : ¬ h.size = 0 := fun e => hz (List.length_eq_zero_iff.1 e)
  have e3 := emp_noP hz0
  have e4 : ¬ h = ByteArray.empty := fun e => hz0 (by rw [e]; rfl)
  have k4 : (9223372036854775807 < n + 1) = False := eq_false (by omega)
  have k5 : (9223372036854775807 < n + 1 + (OU.size + 1 + IN.size)) = False := eq_false (by omega)
  have k6 : (9223372036854775807 < n + 1 + (OU.size + 1 + IN.size) + 4) = False := eq_false (by omega)
  clear hz hz0
  clear hr hw ho
  obtain ⟨X, hX⟩ : ∃ X, textP ⟨h.data.toList, o, i, udpL⟩ = X := ⟨_, rfl⟩
  rw [hX] at HX
  rw [hX]
  clear hX
  go_enter Tryd.func10, Tryd.ntmps10
  go_wp2_with first
    | (go_at_call 9; refine (HR.out _ (HW.out.keep (B0.out _))).mono ?_; rintro e w3 ⟨rfl, hb⟩; have HB := Lib.hid ((B0.out _).trans (hb.mono (by simp))); have HQ := Lib.hid ((bx4_new _ _ _ _ _ _).below hb); clear hb; obtain ⟨q0, q1, q2, q3, q4⟩ := HQ.out)
    | (go_at_call 24; refine (HT.out _).mono ?_; rintro e w3 ⟨rfl, hb⟩; clear q0 q1 q2 q3 q4; replace HB := Lib.hid (HB.out.trans (hb.mono HB.out.size)); replace HQ := Lib.hid (HQ.out.below hb); clear hb; obtain ⟨q0, q1, q2, q3, q4⟩ := HQ.out)
    | (go_at_call 25; refine (HO.out _).mono ?_; rintro e w3 ⟨rfl, hb⟩; clear q0 q1 q2 q3 q4; replace HB := Lib.hid (HB.out.trans (hb.mono HB.out.size)); replace HQ := Lib.hid (HQ.out.below hb); clear hb; obtain ⟨q0, q1, q2, q3, q4⟩ := HQ.out)
  go_ret
  exact ⟨ret_sP (ba_extP (by simp [HX.out, HIN.out, HOU.out, ba_data, udpL])), HB.out⟩
set_option maxRecDepth 100000 in
set_option maxHeartbeats 8000000 in
theorem Text16_ent (h : ByteArray) (o i : Int) (w : World) (hw : SomeMax w) (hs : h.size ≤ 100000) (hr : rightB ⟨[], o, i, tcpL⟩ = true) (ho : ¬ 0 < o) :
    Calls Tryd.prog 10 #[.agg #[.string ByteArray.empty, .int .i64 o, .int .i64 i, .string ⟨#[116, 99, 112]⟩]] w fun e w' => e = .returned (.string (ba (textP ⟨[], o, i, tcpL⟩))) ∧ Below w.heap.size w w' := by
  have HR := Lib.hid (fun w0 hw0 => Right_any ByteArray.empty ⟨#[116, 99, 112]⟩ o i w0 hw0 (by decide))
  have e0 : rightB ⟨(ByteArray.empty : ByteArray).data.toList, o, i, (⟨#[116, 99, 112]⟩ : ByteArray).data.toList⟩ = true := hr
  rw [e0] at HR
  clear e0
  obtain ⟨f1, f2, f3, f4, _, _⟩ := right_facts hr
  have f1 : 1 ≤ i := f1
  have f2 : i ≤ 65535 := f2
  have f3 : 0 ≤ o := f3
  have f4 : o ≤ 65535 := f4
  have HX : Hid (textP ⟨[], o, i, tcpL⟩ = textL i) := Lib.hid (by
    rw [textP_yes hr]
    simp [ho, show (tcpL = udpL) = False from eq_false (by decide)])
  obtain ⟨OU, hOU⟩ : ∃ OU : ByteArray, ba (outL o) = OU := ⟨_, rfl⟩
  have HO := Lib.hid (fun w0 => outText_any o w0 f3 f4)
  rw [hOU] at HO
  have HOU : Hid (OU.data.toList = []) := Lib.hid (by rw [← hOU, ba_data]; exact if_pos (by omega))
  have hOUs : OU.size ≤ 6 := by rw [← hOU]; show (ba (outL o)).data.toList.length ≤ 6; rw [ba_data]; exact outL_size f3 f4
  obtain ⟨IN, hIN⟩ : ∃ IN : ByteArray, (⟨(textL i).toArray⟩ : ByteArray) = IN := ⟨_, rfl⟩
  have HT := Lib.hid (fun w0 => Text_any i w0 (by omega) (by omega))
  rw [hIN] at HT
  have HIN : Hid (IN.data.toList = textL i) := Lib.hid (by rw [← hIN])
  have hINs : IN.size ≤ 6 := by rw [← hIN]; exact textL_size (by omega) f2
  clear hOU hIN
  have HW := Lib.hid hw
  have B0 : Hid (∀ c, Below w.heap.size w (w.alloc c)) := Lib.hid (fun c => (Below.refl _ _).alloc (Nat.le_refl _) _)
  have o1 : (o == 0) = true := beq_iff_eq.2 (by omega)
  have o2 : (o != 0) = false := by rw [bne, o1]; rfl
  have k0 : (9223372036854775807 < OU.size + 1) = False := eq_false (by omega)
  have k1 : (9223372036854775807 < OU.size + 1 + IN.size) = False := eq_false (by omega)
  have k2 : (9223372036854775807 < OU.size + 1 + IN.size + 4) = False := eq_false (by omega)
  have k3 : (9223372036854775807 < IN.size + 4) = False := eq_false (by omega)
  clear hr hw ho
  obtain ⟨X, hX⟩ : ∃ X, textP ⟨[], o, i, tcpL⟩ = X := ⟨_, rfl⟩
  rw [hX] at HX
  rw [hX]
  clear hX
  go_enter Tryd.func10, Tryd.ntmps10
  go_wp2_with first
    | (go_at_call 9; refine (HR.out _ (HW.out.keep (B0.out _))).mono ?_; rintro e w3 ⟨rfl, hb⟩; have HB := Lib.hid ((B0.out _).trans (hb.mono (by simp))); have HQ := Lib.hid ((bx4_new _ _ _ _ _ _).below hb); clear hb; obtain ⟨q0, q1, q2, q3, q4⟩ := HQ.out)
    | (go_at_call 24; refine (HT.out _).mono ?_; rintro e w3 ⟨rfl, hb⟩; clear q0 q1 q2 q3 q4; replace HB := Lib.hid (HB.out.trans (hb.mono HB.out.size)); replace HQ := Lib.hid (HQ.out.below hb); clear hb; obtain ⟨q0, q1, q2, q3, q4⟩ := HQ.out)
    | (go_at_call 25; refine (HO.out _).mono ?_; rintro e w3 ⟨rfl, hb⟩; clear q0 q1 q2 q3 q4; replace HB := Lib.hid (HB.out.trans (hb.mono HB.out.size)); replace HQ := Lib.hid (HQ.out.below hb); clear hb; obtain ⟨q0, q1, q2, q3, q4⟩ := HQ.out)
  go_ret
  exact ⟨ret_sP (ba_extP (by simp [HX.out, HIN.out, ba_data])), HB.out⟩
set_option maxRecDepth 100000 in
set_option maxHeartbeats 8000000 in
theorem Text16_enu (h : ByteArray) (o i : Int) (w : World) (hw : SomeMax w) (hs : h.size ≤ 100000) (hr : rightB ⟨[], o, i, udpL⟩ = true) (ho : ¬ 0 < o) :
    Calls Tryd.prog 10 #[.agg #[.string ByteArray.empty, .int .i64 o, .int .i64 i, .string ⟨#[117, 100, 112]⟩]] w fun e w' => e = .returned (.string (ba (textP ⟨[], o, i, udpL⟩))) ∧ Below w.heap.size w w' := by
  have HR := Lib.hid (fun w0 hw0 => Right_any ByteArray.empty ⟨#[117, 100, 112]⟩ o i w0 hw0 (by decide))
  have e0 : rightB ⟨(ByteArray.empty : ByteArray).data.toList, o, i, (⟨#[117, 100, 112]⟩ : ByteArray).data.toList⟩ = true := hr
  rw [e0] at HR
  clear e0
  obtain ⟨f1, f2, f3, f4, _, _⟩ := right_facts hr
  have f1 : 1 ≤ i := f1
  have f2 : i ≤ 65535 := f2
  have f3 : 0 ≤ o := f3
  have f4 : o ≤ 65535 := f4
  have HX : Hid (textP ⟨[], o, i, udpL⟩ = textL i ++ (47 :: udpL)) := Lib.hid (by
    rw [textP_yes hr]
    simp [ho, show (tcpL = udpL) = False from eq_false (by decide)])
  obtain ⟨OU, hOU⟩ : ∃ OU : ByteArray, ba (outL o) = OU := ⟨_, rfl⟩
  have HO := Lib.hid (fun w0 => outText_any o w0 f3 f4)
  rw [hOU] at HO
  have HOU : Hid (OU.data.toList = []) := Lib.hid (by rw [← hOU, ba_data]; exact if_pos (by omega))
  have hOUs : OU.size ≤ 6 := by rw [← hOU]; show (ba (outL o)).data.toList.length ≤ 6; rw [ba_data]; exact outL_size f3 f4
  obtain ⟨IN, hIN⟩ : ∃ IN : ByteArray, (⟨(textL i).toArray⟩ : ByteArray) = IN := ⟨_, rfl⟩
  have HT := Lib.hid (fun w0 => Text_any i w0 (by omega) (by omega))
  rw [hIN] at HT
  have HIN : Hid (IN.data.toList = textL i) := Lib.hid (by rw [← hIN])
  have hINs : IN.size ≤ 6 := by rw [← hIN]; exact textL_size (by omega) f2
  clear hOU hIN
  have HW := Lib.hid hw
  have B0 : Hid (∀ c, Below w.heap.size w (w.alloc c)) := Lib.hid (fun c => (Below.refl _ _).alloc (Nat.le_refl _) _)
  have o1 : (o == 0) = true := beq_iff_eq.2 (by omega)
  have o2 : (o != 0) = false := by rw [bne, o1]; rfl
  have k0 : (9223372036854775807 < OU.size + 1) = False := eq_false (by omega)
  have k1 : (9223372036854775807 < OU.size + 1 + IN.size) = False := eq_false (by omega)
  have k2 : (9223372036854775807 < OU.size + 1 + IN.size + 4) = False := eq_false (by omega)
  have k3 : (9223372036854775807 < IN.size + 4) = False := eq_false (by omega)
  clear hr hw ho
  obtain ⟨X, hX⟩ : ∃ X, textP ⟨[], o, i, udpL⟩ = X := ⟨_, rfl⟩
  rw [hX] at HX
  rw [hX]
  clear hX
  go_enter Tryd.func10, Tryd.ntmps10
  go_wp2_with first
    | (go_at_call 9; refine (HR.out _ (HW.out.keep (B0.out _))).mono ?_; rintro e w3 ⟨rfl, hb⟩; have HB := Lib.hid ((B0.out _).trans (hb.mono (by simp))); have HQ := Lib.hid ((bx4_new _ _ _ _ _ _).below hb); clear hb; obtain ⟨q0, q1, q2, q3, q4⟩ := HQ.out)
    | (go_at_call 24; refine (HT.out _).mono ?_; rintro e w3 ⟨rfl, hb⟩; clear q0 q1 q2 q3 q4; replace HB := Lib.hid (HB.out.trans (hb.mono HB.out.size)); replace HQ := Lib.hid (HQ.out.below hb); clear hb; obtain ⟨q0, q1, q2, q3, q4⟩ := HQ.out)
    | (go_at_call 25; refine (HO.out _).mono ?_; rintro e w3 ⟨rfl, hb⟩; clear q0 q1 q2 q3 q4; replace HB := Lib.hid (HB.out.trans (hb.mono HB.out.size)); replace HQ := Lib.hid (HQ.out.below hb); clear hb; obtain ⟨q0, q1, q2, q3, q4⟩ := HQ.out)
  go_ret
  exact ⟨ret_sP (ba_extP (by simp [HX.out, HIN.out, ba_data, udpL])), HB.out⟩
set_option maxRecDepth 100000 in
set_option maxHeartbeats 8000000 in
theorem Text16_eot (h : ByteArray) (o i : Int) (w : World) (hw : SomeMax w) (hs : h.size ≤ 100000) (hr : rightB ⟨[], o, i, tcpL⟩ = true) (ho : 0 < o) :
    Calls Tryd.prog 10 #[.agg #[.string ByteArray.empty, .int .i64 o, .int .i64 i, .string ⟨#[116, 99, 112]⟩]] w fun e w' => e = .returned (.string (ba (textP ⟨[], o, i, tcpL⟩))) ∧ Below w.heap.size w w' := by
  have HR := Lib.hid (fun w0 hw0 => Right_any ByteArray.empty ⟨#[116, 99, 112]⟩ o i w0 hw0 (by decide))
  have e0 : rightB ⟨(ByteArray.empty : ByteArray).data.toList, o, i, (⟨#[116, 99, 112]⟩ : ByteArray).data.toList⟩ = true := hr
  rw [e0] at HR
  clear e0
  obtain ⟨f1, f2, f3, f4, _, _⟩ := right_facts hr
  have f1 : 1 ≤ i := f1
  have f2 : i ≤ 65535 := f2
  have f3 : 0 ≤ o := f3
  have f4 : o ≤ 65535 := f4
  have HX : Hid (textP ⟨[], o, i, tcpL⟩ = textL o ++ [58] ++ textL i) := Lib.hid (by
    rw [textP_yes hr]
    simp [ho, show (tcpL = udpL) = False from eq_false (by decide)])
  obtain ⟨OU, hOU⟩ : ∃ OU : ByteArray, ba (outL o) = OU := ⟨_, rfl⟩
  have HO := Lib.hid (fun w0 => outText_any o w0 f3 f4)
  rw [hOU] at HO
  have HOU : Hid (OU.data.toList = textL o) := Lib.hid (by rw [← hOU, ba_data]; exact if_neg (by omega))
  have hOUs : OU.size ≤ 6 := by rw [← hOU]; show (ba (outL o)).data.toList.length ≤ 6; rw [ba_data]; exact outL_size f3 f4
  obtain ⟨IN, hIN⟩ : ∃ IN : ByteArray, (⟨(textL i).toArray⟩ : ByteArray) = IN := ⟨_, rfl⟩
  have HT := Lib.hid (fun w0 => Text_any i w0 (by omega) (by omega))
  rw [hIN] at HT
  have HIN : Hid (IN.data.toList = textL i) := Lib.hid (by rw [← hIN])
  have hINs : IN.size ≤ 6 := by rw [← hIN]; exact textL_size (by omega) f2
  clear hOU hIN
  have HW := Lib.hid hw
  have B0 : Hid (∀ c, Below w.heap.size w (w.alloc c)) := Lib.hid (fun c => (Below.refl _ _).alloc (Nat.le_refl _) _)
  have o1 : (o == 0) = false := beq_eq_false_iff_ne.2 (by omega)
  have o2 : (o != 0) = true := bne_iff_ne.2 (by omega)
  have k0 : (9223372036854775807 < OU.size + 1) = False := eq_false (by omega)
  have k1 : (9223372036854775807 < OU.size + 1 + IN.size) = False := eq_false (by omega)
  have k2 : (9223372036854775807 < OU.size + 1 + IN.size + 4) = False := eq_false (by omega)
  have k3 : (9223372036854775807 < IN.size + 4) = False := eq_false (by omega)
  clear hr hw ho
  obtain ⟨X, hX⟩ : ∃ X, textP ⟨[], o, i, tcpL⟩ = X := ⟨_, rfl⟩
  rw [hX] at HX
  rw [hX]
  clear hX
  go_enter Tryd.func10, Tryd.ntmps10
  go_wp2_with first
    | (go_at_call 9; refine (HR.out _ (HW.out.keep (B0.out _))).mono ?_; rintro e w3 ⟨rfl, hb⟩; have HB := Lib.hid ((B0.out _).trans (hb.mono (by simp))); have HQ := Lib.hid ((bx4_new _ _ _ _ _ _).below hb); clear hb; obtain ⟨q0, q1, q2, q3, q4⟩ := HQ.out)
    | (go_at_call 24; refine (HT.out _).mono ?_; rintro e w3 ⟨rfl, hb⟩; clear q0 q1 q2 q3 q4; replace HB := Lib.hid (HB.out.trans (hb.mono HB.out.size)); replace HQ := Lib.hid (HQ.out.below hb); clear hb; obtain ⟨q0, q1, q2, q3, q4⟩ := HQ.out)
    | (go_at_call 25; refine (HO.out _).mono ?_; rintro e w3 ⟨rfl, hb⟩; clear q0 q1 q2 q3 q4; replace HB := Lib.hid (HB.out.trans (hb.mono HB.out.size)); replace HQ := Lib.hid (HQ.out.below hb); clear hb; obtain ⟨q0, q1, q2, q3, q4⟩ := HQ.out)
  go_ret
  exact ⟨ret_sP (ba_extP (by simp [HX.out, HIN.out, HOU.out, ba_data])), HB.out⟩
set_option maxRecDepth 100000 in
set_option maxHeartbeats 8000000 in
theorem Text16_eou (h : ByteArray) (o i : Int) (w : World) (hw : SomeMax w) (hs : h.size ≤ 100000) (hr : rightB ⟨[], o, i, udpL⟩ = true) (ho : 0 < o) :
    Calls Tryd.prog 10 #[.agg #[.string ByteArray.empty, .int .i64 o, .int .i64 i, .string ⟨#[117, 100, 112]⟩]] w fun e w' => e = .returned (.string (ba (textP ⟨[], o, i, udpL⟩))) ∧ Below w.heap.size w w' := by
  have HR := Lib.hid (fun w0 hw0 => Right_any ByteArray.empty ⟨#[117, 100, 112]⟩ o i w0 hw0 (by decide))
  have e0 : rightB ⟨(ByteArray.empty : ByteArray).data.toList, o, i, (⟨#[117, 100, 112]⟩ : ByteArray).data.toList⟩ = true := hr
  rw [e0] at HR
  clear e0
  obtain ⟨f1, f2, f3, f4, _, _⟩ := right_facts hr
  have f1 : 1 ≤ i := f1
  have f2 : i ≤ 65535 := f2
  have f3 : 0 ≤ o := f3
  have f4 : o ≤ 65535 := f4
  have HX : Hid (textP ⟨[], o, i, udpL⟩ = textL o ++ [58] ++ textL i ++ (47 :: udpL)) := Lib.hid (by
    rw [textP_yes hr]
    simp [ho, show (tcpL = udpL) = False from eq_false (by decide)])
  obtain ⟨OU, hOU⟩ : ∃ OU : ByteArray, ba (outL o) = OU := ⟨_, rfl⟩
  have HO := Lib.hid (fun w0 => outText_any o w0 f3 f4)
  rw [hOU] at HO
  have HOU : Hid (OU.data.toList = textL o) := Lib.hid (by rw [← hOU, ba_data]; exact if_neg (by omega))
  have hOUs : OU.size ≤ 6 := by rw [← hOU]; show (ba (outL o)).data.toList.length ≤ 6; rw [ba_data]; exact outL_size f3 f4
  obtain ⟨IN, hIN⟩ : ∃ IN : ByteArray, (⟨(textL i).toArray⟩ : ByteArray) = IN := ⟨_, rfl⟩
  have HT := Lib.hid (fun w0 => Text_any i w0 (by omega) (by omega))
  rw [hIN] at HT
  have HIN : Hid (IN.data.toList = textL i) := Lib.hid (by rw [← hIN])
  have hINs : IN.size ≤ 6 := by rw [← hIN]; exact textL_size (by omega) f2
  clear hOU hIN
  have HW := Lib.hid hw
  have B0 : Hid (∀ c, Below w.heap.size w (w.alloc c)) := Lib.hid (fun c => (Below.refl _ _).alloc (Nat.le_refl _) _)
  have o1 : (o == 0) = false := beq_eq_false_iff_ne.2 (by omega)
  have o2 : (o != 0) = true := bne_iff_ne.2 (by omega)
  have k0 : (9223372036854775807 < OU.size + 1) = False := eq_false (by omega)
  have k1 : (9223372036854775807 < OU.size + 1 + IN.size) = False := eq_false (by omega)
  have k2 : (9223372036854775807 < OU.size + 1 + IN.size + 4) = False := eq_false (by omega)
  have k3 : (9223372036854775807 < IN.size + 4) = False := eq_false (by omega)
  clear hr hw ho
  obtain ⟨X, hX⟩ : ∃ X, textP ⟨[], o, i, udpL⟩ = X := ⟨_, rfl⟩
  rw [hX] at HX
  rw [hX]
  clear hX
  go_enter Tryd.func10, Tryd.ntmps10
  go_wp2_with first
    | (go_at_call 9; refine (HR.out _ (HW.out.keep (B0.out _))).mono ?_; rintro e w3 ⟨rfl, hb⟩; have HB := Lib.hid ((B0.out _).trans (hb.mono (by simp))); have HQ := Lib.hid ((bx4_new _ _ _ _ _ _).below hb); clear hb; obtain ⟨q0, q1, q2, q3, q4⟩ := HQ.out)
    | (go_at_call 24; refine (HT.out _).mono ?_; rintro e w3 ⟨rfl, hb⟩; clear q0 q1 q2 q3 q4; replace HB := Lib.hid (HB.out.trans (hb.mono HB.out.size)); replace HQ := Lib.hid (HQ.out.below hb); clear hb; obtain ⟨q0, q1, q2, q3, q4⟩ := HQ.out)
    | (go_at_call 25; refine (HO.out _).mono ?_; rintro e w3 ⟨rfl, hb⟩; clear q0 q1 q2 q3 q4; replace HB := Lib.hid (HB.out.trans (hb.mono HB.out.size)); replace HQ := Lib.hid (HQ.out.below hb); clear hb; obtain ⟨q0, q1, q2, q3, q4⟩ := HQ.out)
  go_ret
  exact ⟨ret_sP (ba_extP (by simp [HX.out, HIN.out, HOU.out, ba_data, udpL])), HB.out⟩
theorem Text16_any (h pr : ByteArray) (o i : Int) (w : World) (hw : SomeMax w) (hs : h.size ≤ 100000) :
    Calls Tryd.prog 10 #[.agg #[.string h, .int .i64 o, .int .i64 i, .string pr]] w fun e w' => e = .returned (.string (ba (textP ⟨h.data.toList, o, i, pr.data.toList⟩))) ∧ Below w.heap.size w w' := by
  cases hr : rightB ⟨h.data.toList, o, i, pr.data.toList⟩ with
  | false => rw [textP_no hr]; exact Text16_no h pr o i w hw hs hr
  | true =>
    obtain ⟨_, _, _, _, f5, _⟩ := right_facts hr
    have f5 : pr.data.toList = tcpL ∨ pr.data.toList = udpL := f5
    by_cases hz : h.data.toList = []
    · obtain rfl : h = ByteArray.empty := ba_extP hz
      rcases f5 with e | e
      · obtain rfl : pr = ⟨#[116, 99, 112]⟩ := ba_extP e
        by_cases ho : 0 < o
        · exact Text16_eot ByteArray.empty o i w hw hs hr ho
        · exact Text16_ent ByteArray.empty o i w hw hs hr ho
      · obtain rfl : pr = ⟨#[117, 100, 112]⟩ := ba_extP e
        by_cases ho : 0 < o
        · exact Text16_eou ByteArray.empty o i w hw hs hr ho
        · exact Text16_enu ByteArray.empty o i w hw hs hr ho
    · rcases f5 with e | e
      · obtain rfl : pr = ⟨#[116, 99, 112]⟩ := ba_extP e
        by_cases ho : 0 < o
        · exact Text16_hot h o i w hw hs hz hr ho
        · exact Text16_hnt h o i w hw hs hz hr ho
      · obtain rfl : pr = ⟨#[117, 100, 112]⟩ := ba_extP e
        by_cases ho : 0 < o
        · exact Text16_hou h o i w hw hs hz hr ho
        · exact Text16_hnu h o i w hw hs hz hr ho
end Go.Proofs.YtkgfinhepbipeaaDoor
