/- The reference's Text. -/
import Derived.Test.YtkgfinhepbipeaaDoorRefPrt2
namespace Go.Proofs.YtkgfinhepbipeaaDoor
open Go.RowKit Go.Sort
open Nw Dg P16
set_option linter.unusedVariables false
set_option linter.unusedSimpArgs false
/-- A port in a box of memory. -/
def Bx4 (w : World) (b : Nat) (h : ByteArray) (o i : Int) (pr : ByteArray) : Prop :=
  b < w.heap.size ∧ w.cell? ⟨b, 0, none⟩ = some (.string h) ∧ w.cell? ⟨b, 1, none⟩ = some (.int .i64 o) ∧ w.cell? ⟨b, 2, none⟩ = some (.int .i64 i) ∧ w.cell? ⟨b, 3, none⟩ = some (.string pr)
theorem Bx4.below {w w' : World} {b : Nat} {h pr : ByteArray} {o i : Int} (k : Bx4 w b h o i pr) (hb : Below w.heap.size w w') : Bx4 w' b h o i pr :=
  ⟨Nat.lt_of_lt_of_le k.1 hb.size, (hb.cell (p := ⟨b, 0, none⟩) k.1).trans k.2.1, (hb.cell (p := ⟨b, 1, none⟩) k.1).trans k.2.2.1, (hb.cell (p := ⟨b, 2, none⟩) k.1).trans k.2.2.2.1, (hb.cell (p := ⟨b, 3, none⟩) k.1).trans k.2.2.2.2⟩
theorem bx4_new (w : World) (t : TypeId) (h pr : ByteArray) (o i : Int) : Bx4 (w.alloc (.cells #[.string h, .int .i64 o, .int .i64 i, .string pr] t)) w.heap.size h o i pr := by
  refine ⟨by simp, ?_, ?_, ?_, ?_⟩ <;> simp [go_sem]
theorem ret_sP {a b : ByteArray} (h : a = b) : Ending.returned (.string a) = .returned (.string b) := by rw [h]
theorem textL_size {n : Int} (h : 0 ≤ n) (hm : n ≤ 65535) : (textL n).length ≤ 6 := by
  rw [text_digs h]
  have h1 : val (dgw 1 n.natAbs) = n.natAbs := val_dgw _ _
  have hw := whole_dgw n.natAbs
  by_cases hl : (dgw 1 n.natAbs).length ≤ 6
  · exact hl
  · have := val_long hw 5 (by omega)
    omega
theorem textP_no {p : Po} (h : rightB p = false) : textP p = [] := by unfold textP; rw [h]; rfl
theorem textP_yes {p : Po} (h : rightB p = true) : textP p = (if p.host = [] then [] else p.host ++ [58]) ++ (if 0 < p.out then textL p.out ++ [58] else if p.host = [] then [] else [58]) ++ textL p.inn ++ (if p.proto = udpL then 47 :: udpL else []) := by unfold textP; rw [if_pos h]; rfl
theorem data_appP (a b : ByteArray) : (a ++ b).data.toList = a.data.toList ++ b.data.toList := by
  rw [ByteArray.data_append]; simp
set_option maxRecDepth 100000 in
set_option maxHeartbeats 4000000 in
theorem RText16_no (h pr : ByteArray) (o i : Int) (w : World) (hs : h.size ≤ 100000) (hr : rightB ⟨h.data.toList, o, i, pr.data.toList⟩ = false) :
    Calls Tryd.prog 12 #[.agg #[.string h, .int .i64 o, .int .i64 i, .string pr]] w fun e w' => e = .returned (.string ⟨#[]⟩) ∧ Below w.heap.size w w' := by
  have HR := Lib.hid (fun w0 => RRight_any h pr o i w0 hs)
  rw [hr] at HR
  have B0 : Hid (∀ c, Below w.heap.size w (w.alloc c)) := Lib.hid (fun c => (Below.refl _ _).alloc (Nat.le_refl _) _)
  clear hr
  go_enter Tryd.func12, Tryd.ntmps12
  go_wp2_with (go_at_call 11; refine (HR.out _).mono ?_; rintro e w3 ⟨rfl, hb⟩; have HB := Lib.hid hb; clear hb)
  go_ret
  exact ⟨rfl, (B0.out _).trans (HB.out.mono (by simp))⟩
set_option maxRecDepth 100000 in
set_option maxHeartbeats 8000000 in
theorem RText16_hnt (h : ByteArray) (o i : Int) (w : World) (hs : h.size ≤ 100000) (hz : h.data.toList ≠ []) (hr : rightB ⟨h.data.toList, o, i, tcpL⟩ = true) (ho : ¬ 0 < o) :
    Calls Tryd.prog 12 #[.agg #[.string h, .int .i64 o, .int .i64 i, .string ⟨#[116, 99, 112]⟩]] w fun e w' => e = .returned (.string (ba (textP ⟨h.data.toList, o, i, tcpL⟩))) ∧ Below w.heap.size w w' := by
  have HR := Lib.hid (fun w0 => RRight_any h ⟨#[116, 99, 112]⟩ o i w0 hs)
  have e0 : rightB ⟨(h : ByteArray).data.toList, o, i, (⟨#[116, 99, 112]⟩ : ByteArray).data.toList⟩ = true := hr
  rw [e0] at HR
  clear e0
  obtain ⟨f1, f2, f3, f4, _, _⟩ := right_facts hr
  have f1 : 1 ≤ i := f1
  have f2 : i ≤ 65535 := f2
  have f3 : 0 ≤ o := f3
  have f4 : o ≤ 65535 := f4
  have HX : Hid (textP ⟨h.data.toList, o, i, tcpL⟩ = h.data.toList ++ [58] ++ [58] ++ textL i) := Lib.hid (by
    rw [textP_yes hr]
    simp [hz, ho, show (tcpL = udpL) = False from eq_false (by decide)])
  obtain ⟨TX, hTX⟩ : ∃ TX : Int → ByteArray, TX = fun n => ⟨(textL n).toArray⟩ := ⟨_, rfl⟩
  have HT : Hid (∀ (n : Int) (w0 : World), 0 ≤ n → n ≤ 65535 → Calls Tryd.prog 27 #[.int .i64 n] w0 fun e w' => e = .returned (.string (TX n)) ∧ Below w0.heap.size w0 w') := Lib.hid (fun n w0 g1 g2 => by rw [hTX]; exact RText_any n w0 (by omega) (by omega))
  have HTX : Hid (∀ n, (TX n).data.toList = textL n) := Lib.hid (fun n => by rw [hTX])
  have f5 : 0 ≤ i := by omega
  have hTOs : (TX o).size ≤ 6 := by rw [hTX]; exact textL_size f3 f4
  have hTIs : (TX i).size ≤ 6 := by rw [hTX]; exact textL_size f5 f2
  clear hTX
  have B0 : Hid (∀ c, Below w.heap.size w (w.alloc c)) := Lib.hid (fun c => (Below.refl _ _).alloc (Nat.le_refl _) _)
  obtain ⟨n, hn⟩ : ∃ n, h.size = n := ⟨_, rfl⟩
  have HN := Lib.hid hn
  have hzz : (0 : Int) < (n : Int) := by
    have : 0 < h.data.toList.length := List.length_pos_iff.2 hz
    have : 0 < h.size := this
    omega
  have hzn : 0 < n := by omega
  have hze : ¬ n = 0 := by omega
  have k1 : (9223372036854775807 < n + 1) = False := eq_false (by omega)
  have k2 : (9223372036854775807 < n + 1 + (TX o).size) = False := eq_false (by omega)
  have k3 : (9223372036854775807 < n + 1 + (TX o).size + 1) = False := eq_false (by omega)
  have k4 : (9223372036854775807 < n + 1 + (TX o).size + 1 + (TX i).size) = False := eq_false (by omega)
  have k5 : (9223372036854775807 < n + 1 + (TX o).size + 1 + (TX i).size + 4) = False := eq_false (by omega)
  have k6 : (9223372036854775807 < n + 1 + 1) = False := eq_false (by omega)
  have k7 : (9223372036854775807 < n + 1 + 1 + (TX i).size) = False := eq_false (by omega)
  have k8 : (9223372036854775807 < n + 1 + 1 + (TX i).size + 4) = False := eq_false (by omega)
  clear hz
  clear hr
  obtain ⟨X, hX⟩ : ∃ X, textP ⟨h.data.toList, o, i, tcpL⟩ = X := ⟨_, rfl⟩
  rw [hX] at HX
  rw [hX]
  clear hX
  go_enter Tryd.func12, Tryd.ntmps12
  go_wp2_with first
    | (go_at_call 11; refine (HR.out _).mono ?_; rintro e w3 ⟨rfl, hb⟩; have HB := Lib.hid ((B0.out _).trans (hb.mono (by simp))); have HQ := Lib.hid ((bx4_new _ _ _ _ _ _).below hb); clear hb; obtain ⟨q0, q1, q2, q3, q4⟩ := HQ.out)
    | (go_at_call 27; refine (HT.out _ _ (by assumption) (by assumption)).mono ?_; rintro e w3 ⟨rfl, hb⟩; clear q0 q1 q2 q3 q4; replace HB := Lib.hid (HB.out.trans (hb.mono HB.out.size)); replace HQ := Lib.hid (HQ.out.below hb); clear hb; obtain ⟨q0, q1, q2, q3, q4⟩ := HQ.out)
  go_ret
  exact ⟨ret_sP (ba_extP (by simp [data_appP, HX.out, HTX.out, ba_data, udpL])), HB.out⟩
set_option maxRecDepth 100000 in
set_option maxHeartbeats 8000000 in
theorem RText16_hnu (h : ByteArray) (o i : Int) (w : World) (hs : h.size ≤ 100000) (hz : h.data.toList ≠ []) (hr : rightB ⟨h.data.toList, o, i, udpL⟩ = true) (ho : ¬ 0 < o) :
    Calls Tryd.prog 12 #[.agg #[.string h, .int .i64 o, .int .i64 i, .string ⟨#[117, 100, 112]⟩]] w fun e w' => e = .returned (.string (ba (textP ⟨h.data.toList, o, i, udpL⟩))) ∧ Below w.heap.size w w' := by
  have HR := Lib.hid (fun w0 => RRight_any h ⟨#[117, 100, 112]⟩ o i w0 hs)
  have e0 : rightB ⟨(h : ByteArray).data.toList, o, i, (⟨#[117, 100, 112]⟩ : ByteArray).data.toList⟩ = true := hr
  rw [e0] at HR
  clear e0
  obtain ⟨f1, f2, f3, f4, _, _⟩ := right_facts hr
  have f1 : 1 ≤ i := f1
  have f2 : i ≤ 65535 := f2
  have f3 : 0 ≤ o := f3
  have f4 : o ≤ 65535 := f4
  have HX : Hid (textP ⟨h.data.toList, o, i, udpL⟩ = h.data.toList ++ [58] ++ [58] ++ textL i ++ (47 :: udpL)) := Lib.hid (by
    rw [textP_yes hr]
    simp [hz, ho, show (tcpL = udpL) = False from eq_false (by decide)])
  obtain ⟨TX, hTX⟩ : ∃ TX : Int → ByteArray, TX = fun n => ⟨(textL n).toArray⟩ := ⟨_, rfl⟩
  have HT : Hid (∀ (n : Int) (w0 : World), 0 ≤ n → n ≤ 65535 → Calls Tryd.prog 27 #[.int .i64 n] w0 fun e w' => e = .returned (.string (TX n)) ∧ Below w0.heap.size w0 w') := Lib.hid (fun n w0 g1 g2 => by rw [hTX]; exact RText_any n w0 (by omega) (by omega))
  have HTX : Hid (∀ n, (TX n).data.toList = textL n) := Lib.hid (fun n => by rw [hTX])
  have f5 : 0 ≤ i := by omega
  have hTOs : (TX o).size ≤ 6 := by rw [hTX]; exact textL_size f3 f4
  have hTIs : (TX i).size ≤ 6 := by rw [hTX]; exact textL_size f5 f2
  clear hTX
  have B0 : Hid (∀ c, Below w.heap.size w (w.alloc c)) := Lib.hid (fun c => (Below.refl _ _).alloc (Nat.le_refl _) _)
  obtain ⟨n, hn⟩ : ∃ n, h.size = n := ⟨_, rfl⟩
  have HN := Lib.hid hn
  have hzz : (0 : Int) < (n : Int) := by
    have : 0 < h.data.toList.length := List.length_pos_iff.2 hz
    have : 0 < h.size := this
    omega
  have hzn : 0 < n := by omega
  have hze : ¬ n = 0 := by omega
  have k1 : (9223372036854775807 < n + 1) = False := eq_false (by omega)
  have k2 : (9223372036854775807 < n + 1 + (TX o).size) = False := eq_false (by omega)
  have k3 : (9223372036854775807 < n + 1 + (TX o).size + 1) = False := eq_false (by omega)
  have k4 : (9223372036854775807 < n + 1 + (TX o).size + 1 + (TX i).size) = False := eq_false (by omega)
  have k5 : (9223372036854775807 < n + 1 + (TX o).size + 1 + (TX i).size + 4) = False := eq_false (by omega)
  have k6 : (9223372036854775807 < n + 1 + 1) = False := eq_false (by omega)
  have k7 : (9223372036854775807 < n + 1 + 1 + (TX i).size) = False := eq_false (by omega)
  have k8 : (9223372036854775807 < n + 1 + 1 + (TX i).size + 4) = False := eq_false (by omega)
  clear hz
  clear hr
  obtain ⟨X, hX⟩ : ∃ X, textP ⟨h.data.toList, o, i, udpL⟩ = X := ⟨_, rfl⟩
  rw [hX] at HX
  rw [hX]
  clear hX
  go_enter Tryd.func12, Tryd.ntmps12
  go_wp2_with first
    | (go_at_call 11; refine (HR.out _).mono ?_; rintro e w3 ⟨rfl, hb⟩; have HB := Lib.hid ((B0.out _).trans (hb.mono (by simp))); have HQ := Lib.hid ((bx4_new _ _ _ _ _ _).below hb); clear hb; obtain ⟨q0, q1, q2, q3, q4⟩ := HQ.out)
    | (go_at_call 27; refine (HT.out _ _ (by assumption) (by assumption)).mono ?_; rintro e w3 ⟨rfl, hb⟩; clear q0 q1 q2 q3 q4; replace HB := Lib.hid (HB.out.trans (hb.mono HB.out.size)); replace HQ := Lib.hid (HQ.out.below hb); clear hb; obtain ⟨q0, q1, q2, q3, q4⟩ := HQ.out)
  go_ret
  exact ⟨ret_sP (ba_extP (by simp [data_appP, HX.out, HTX.out, ba_data, udpL])), HB.out⟩
set_option maxRecDepth 100000 in
set_option maxHeartbeats 8000000 in
theorem RText16_hot (h : ByteArray) (o i : Int) (w : World) (hs : h.size ≤ 100000) (hz : h.data.toList ≠ []) (hr : rightB ⟨h.data.toList, o, i, tcpL⟩ = true) (ho : 0 < o) :
    Calls Tryd.prog 12 #[.agg #[.string h, .int .i64 o, .int .i64 i, .string ⟨#[116, 99, 112]⟩]] w fun e w' => e = .returned (.string (ba (textP ⟨h.data.toList, o, i, tcpL⟩))) ∧ Below w.heap.size w w' := by
  have HR := Lib.hid (fun w0 => RRight_any h ⟨#[116, 99, 112]⟩ o i w0 hs)
  have e0 : rightB ⟨(h : ByteArray).data.toList, o, i, (⟨#[116, 99, 112]⟩ : ByteArray).data.toList⟩ = true := hr
  rw [e0] at HR
  clear e0
  obtain ⟨f1, f2, f3, f4, _, _⟩ := right_facts hr
  have f1 : 1 ≤ i := f1
  have f2 : i ≤ 65535 := f2
  have f3 : 0 ≤ o := f3
  have f4 : o ≤ 65535 := f4
  have HX : Hid (textP ⟨h.data.toList, o, i, tcpL⟩ = h.data.toList ++ [58] ++ textL o ++ [58] ++ textL i) := Lib.hid (by
    rw [textP_yes hr]
    simp [hz, ho, show (tcpL = udpL) = False from eq_false (by decide)])
  obtain ⟨TX, hTX⟩ : ∃ TX : Int → ByteArray, TX = fun n => ⟨(textL n).toArray⟩ := ⟨_, rfl⟩
  have HT : Hid (∀ (n : Int) (w0 : World), 0 ≤ n → n ≤ 65535 → Calls Tryd.prog 27 #[.int .i64 n] w0 fun e w' => e = .returned (.string (TX n)) ∧ Below w0.heap.size w0 w') := Lib.hid (fun n w0 g1 g2 => by rw [hTX]; exact RText_any n w0 (by omega) (by omega))
  have HTX : Hid (∀ n, (TX n).data.toList = textL n) := Lib.hid (fun n => by rw [hTX])
  have f5 : 0 ≤ i := by omega
  have hTOs : (TX o).size ≤ 6 := by rw [hTX]; exact textL_size f3 f4
  have hTIs : (TX i).size ≤ 6 := by rw [hTX]; exact textL_size f5 f2
  clear hTX
  have B0 : Hid (∀ c, Below w.heap.size w (w.alloc c)) := Lib.hid (fun c => (Below.refl _ _).alloc (Nat.le_refl _) _)
  obtain ⟨n, hn⟩ : ∃ n, h.size = n := ⟨_, rfl⟩
  have HN := Lib.hid hn
  have hzz : (0 : Int) < (n : Int) := by
    have : 0 < h.data.toList.length := List.length_pos_iff.2 hz
    have : 0 < h.size := this
    omega
  have hzn : 0 < n := by omega
  have hze : ¬ n = 0 := by omega
  have k1 : (9223372036854775807 < n + 1) = False := eq_false (by omega)
  have k2 : (9223372036854775807 < n + 1 + (TX o).size) = False := eq_false (by omega)
  have k3 : (9223372036854775807 < n + 1 + (TX o).size + 1) = False := eq_false (by omega)
  have k4 : (9223372036854775807 < n + 1 + (TX o).size + 1 + (TX i).size) = False := eq_false (by omega)
  have k5 : (9223372036854775807 < n + 1 + (TX o).size + 1 + (TX i).size + 4) = False := eq_false (by omega)
  have k6 : (9223372036854775807 < n + 1 + 1) = False := eq_false (by omega)
  have k7 : (9223372036854775807 < n + 1 + 1 + (TX i).size) = False := eq_false (by omega)
  have k8 : (9223372036854775807 < n + 1 + 1 + (TX i).size + 4) = False := eq_false (by omega)
  clear hz
  clear hr
  obtain ⟨X, hX⟩ : ∃ X, textP ⟨h.data.toList, o, i, tcpL⟩ = X := ⟨_, rfl⟩
  rw [hX] at HX
  rw [hX]
  clear hX
  go_enter Tryd.func12, Tryd.ntmps12
  go_wp2_with first
    | (go_at_call 11; refine (HR.out _).mono ?_; rintro e w3 ⟨rfl, hb⟩; have HB := Lib.hid ((B0.out _).trans (hb.mono (by simp))); have HQ := Lib.hid ((bx4_new _ _ _ _ _ _).below hb); clear hb; obtain ⟨q0, q1, q2, q3, q4⟩ := HQ.out)
    | (go_at_call 27; refine (HT.out _ _ (by assumption) (by assumption)).mono ?_; rintro e w3 ⟨rfl, hb⟩; clear q0 q1 q2 q3 q4; replace HB := Lib.hid (HB.out.trans (hb.mono HB.out.size)); replace HQ := Lib.hid (HQ.out.below hb); clear hb; obtain ⟨q0, q1, q2, q3, q4⟩ := HQ.out)
  go_ret
  exact ⟨ret_sP (ba_extP (by simp [data_appP, HX.out, HTX.out, ba_data, udpL])), HB.out⟩
set_option maxRecDepth 100000 in
set_option maxHeartbeats 8000000 in
theorem RText16_hou (h : ByteArray) (o i : Int) (w : World) (hs : h.size ≤ 100000) (hz : h.data.toList ≠ []) (hr : rightB ⟨h.data.toList, o, i, udpL⟩ = true) (ho : 0 < o) :
    Calls Tryd.prog 12 #[.agg #[.string h, .int .i64 o, .int .i64 i, .string ⟨#[117, 100, 112]⟩]] w fun e w' => e = .returned (.string (ba (textP ⟨h.data.toList, o, i, udpL⟩))) ∧ Below w.heap.size w w' := by
  have HR := Lib.hid (fun w0 => RRight_any h ⟨#[117, 100, 112]⟩ o i w0 hs)
  have e0 : rightB ⟨(h : ByteArray).data.toList, o, i, (⟨#[117, 100, 112]⟩ : ByteArray).data.toList⟩ = true := hr
  rw [e0] at HR
  clear e0
  obtain ⟨f1, f2, f3, f4, _, _⟩ := right_facts hr
  have f1 : 1 ≤ i := f1
  have f2 : i ≤ 65535 := f2
  have f3 : 0 ≤ o := f3
  have f4 : o ≤ 65535 := f4
  have HX : Hid (textP ⟨h.data.toList, o, i, udpL⟩ = h.data.toList ++ [58] ++ textL o ++ [58] ++ textL i ++ (47 :: udpL)) := Lib.hid (by
    rw [textP_yes hr]
    simp [hz, ho, show (tcpL = udpL) = False from eq_false (by decide)])
  obtain ⟨TX, hTX⟩ : ∃ TX : Int → ByteArray, TX = fun n => ⟨(textL n).toArray⟩ := ⟨_, rfl⟩
  have HT : Hid (∀ (n : Int) (w0 : World), 0 ≤ n → n ≤ 65535 → Calls Tryd.prog 27 #[.int .i64 n] w0 fun e w' => e = .returned (.string (TX n)) ∧ Below w0.heap.size w0 w') := Lib.hid (fun n w0 g1 g2 => by rw [hTX]; exact RText_any n w0 (by omega) (by omega))
  have HTX : Hid (∀ n, (TX n).data.toList = textL n) := Lib.hid (fun n => by rw [hTX])
  have f5 : 0 ≤ i := by omega
  have hTOs : (TX o).size ≤ 6 := by rw [hTX]; exact textL_size f3 f4
  have hTIs : (TX i).size ≤ 6 := by rw [hTX]; exact textL_size f5 f2
  clear hTX
  have B0 : Hid (∀ c, Below w.heap.size w (w.alloc c)) := Lib.hid (fun c => (Below.refl _ _).alloc (Nat.le_refl _) _)
  obtain ⟨n, hn⟩ : ∃ n, h.size = n := ⟨_, rfl⟩
  have HN := Lib.hid hn
  have hzz : (0 : Int) < (n : Int) := by
    have : 0 < h.data.toList.length := List.length_pos_iff.2 hz
    have : 0 < h.size := this
    omega
  have hzn : 0 < n := by omega
  have hze : ¬ n = 0 := by omega
  have k1 : (9223372036854775807 < n + 1) = False := eq_false (by omega)
  have k2 : (9223372036854775807 < n + 1 + (TX o).size) = False := eq_false (by omega)
  have k3 : (9223372036854775807 < n + 1 + (TX o).size + 1) = False := eq_false (by omega)
  have k4 : (9223372036854775807 < n + 1 + (TX o).size + 1 + (TX i).size) = False := eq_false (by omega)
  have k5 : (9223372036854775807 < n + 1 + (TX o).size + 1 + (TX i).size + 4) = False := eq_false (by omega)
  have k6 : (9223372036854775807 < n + 1 + 1) = False := eq_false (by omega)
  have k7 : (9223372036854775807 < n + 1 + 1 + (TX i).size) = False := eq_false (by omega)
  have k8 : (9223372036854775807 < n + 1 + 1 + (TX i).size + 4) = False := eq_false (by omega)
  clear hz
  clear hr
  obtain ⟨X, hX⟩ : ∃ X, textP ⟨h.data.toList, o, i, udpL⟩ = X := ⟨_, rfl⟩
  rw [hX] at HX
  rw [hX]
  clear hX
  go_enter Tryd.func12, Tryd.ntmps12
  go_wp2_with first
    | (go_at_call 11; refine (HR.out _).mono ?_; rintro e w3 ⟨rfl, hb⟩; have HB := Lib.hid ((B0.out _).trans (hb.mono (by simp))); have HQ := Lib.hid ((bx4_new _ _ _ _ _ _).below hb); clear hb; obtain ⟨q0, q1, q2, q3, q4⟩ := HQ.out)
    | (go_at_call 27; refine (HT.out _ _ (by assumption) (by assumption)).mono ?_; rintro e w3 ⟨rfl, hb⟩; clear q0 q1 q2 q3 q4; replace HB := Lib.hid (HB.out.trans (hb.mono HB.out.size)); replace HQ := Lib.hid (HQ.out.below hb); clear hb; obtain ⟨q0, q1, q2, q3, q4⟩ := HQ.out)
  go_ret
  exact ⟨ret_sP (ba_extP (by simp [data_appP, HX.out, HTX.out, ba_data, udpL])), HB.out⟩
set_option maxRecDepth 100000 in
set_option maxHeartbeats 8000000 in
theorem RText16_ent (h : ByteArray) (o i : Int) (w : World) (hs : h.size ≤ 100000) (hr : rightB ⟨[], o, i, tcpL⟩ = true) (ho : ¬ 0 < o) :
    Calls Tryd.prog 12 #[.agg #[.string ByteArray.empty, .int .i64 o, .int .i64 i, .string ⟨#[116, 99, 112]⟩]] w fun e w' => e = .returned (.string (ba (textP ⟨[], o, i, tcpL⟩))) ∧ Below w.heap.size w w' := by
  have HR := Lib.hid (fun w0 => RRight_any ByteArray.empty ⟨#[116, 99, 112]⟩ o i w0 (by decide))
  have e0 : rightB ⟨(ByteArray.empty : ByteArray).data.toList, o, i, (⟨#[116, 99, 112]⟩ : ByteArray).data.toList⟩ = true := hr
  rw [e0] at HR
  clear e0
  obtain ⟨f1, f2, f3, f4, _, _⟩ := right_facts hr
  have f1 : 1 ≤ i := f1
  have f2 : i ≤ 65535 := f2
  have f3 : 0 ≤ o := f3
  have f4 : o ≤ 65535 := f4
  have HX : Hid (textP ⟨[], o, i, tcpL⟩ = textL i) := Lib.hid (by
    rw [textP_yes hr]
    simp [ho, show (tcpL = udpL) = False from eq_false (by decide)])
  obtain ⟨TX, hTX⟩ : ∃ TX : Int → ByteArray, TX = fun n => ⟨(textL n).toArray⟩ := ⟨_, rfl⟩
  have HT : Hid (∀ (n : Int) (w0 : World), 0 ≤ n → n ≤ 65535 → Calls Tryd.prog 27 #[.int .i64 n] w0 fun e w' => e = .returned (.string (TX n)) ∧ Below w0.heap.size w0 w') := Lib.hid (fun n w0 g1 g2 => by rw [hTX]; exact RText_any n w0 (by omega) (by omega))
  have HTX : Hid (∀ n, (TX n).data.toList = textL n) := Lib.hid (fun n => by rw [hTX])
  have f5 : 0 ≤ i := by omega
  have hTOs : (TX o).size ≤ 6 := by rw [hTX]; exact textL_size f3 f4
  have hTIs : (TX i).size ≤ 6 := by rw [hTX]; exact textL_size f5 f2
  clear hTX
  have B0 : Hid (∀ c, Below w.heap.size w (w.alloc c)) := Lib.hid (fun c => (Below.refl _ _).alloc (Nat.le_refl _) _)
  clear hr
  obtain ⟨X, hX⟩ : ∃ X, textP ⟨[], o, i, tcpL⟩ = X := ⟨_, rfl⟩
  rw [hX] at HX
  rw [hX]
  clear hX
  go_enter Tryd.func12, Tryd.ntmps12
  go_wp2_with first
    | (go_at_call 11; refine (HR.out _).mono ?_; rintro e w3 ⟨rfl, hb⟩; have HB := Lib.hid ((B0.out _).trans (hb.mono (by simp))); have HQ := Lib.hid ((bx4_new _ _ _ _ _ _).below hb); clear hb; obtain ⟨q0, q1, q2, q3, q4⟩ := HQ.out)
    | (go_at_call 27; refine (HT.out _ _ (by assumption) (by assumption)).mono ?_; rintro e w3 ⟨rfl, hb⟩; clear q0 q1 q2 q3 q4; replace HB := Lib.hid (HB.out.trans (hb.mono HB.out.size)); replace HQ := Lib.hid (HQ.out.below hb); clear hb; obtain ⟨q0, q1, q2, q3, q4⟩ := HQ.out)
  go_ret
  exact ⟨ret_sP (ba_extP (by simp [data_appP, HX.out, HTX.out, ba_data, udpL])), HB.out⟩
set_option maxRecDepth 100000 in
set_option maxHeartbeats 8000000 in
theorem RText16_enu (h : ByteArray) (o i : Int) (w : World) (hs : h.size ≤ 100000) (hr : rightB ⟨[], o, i, udpL⟩ = true) (ho : ¬ 0 < o) :
    Calls Tryd.prog 12 #[.agg #[.string ByteArray.empty, .int .i64 o, .int .i64 i, .string ⟨#[117, 100, 112]⟩]] w fun e w' => e = .returned (.string (ba (textP ⟨[], o, i, udpL⟩))) ∧ Below w.heap.size w w' := by
  have HR := Lib.hid (fun w0 => RRight_any ByteArray.empty ⟨#[117, 100, 112]⟩ o i w0 (by decide))
  have e0 : rightB ⟨(ByteArray.empty : ByteArray).data.toList, o, i, (⟨#[117, 100, 112]⟩ : ByteArray).data.toList⟩ = true := hr
  rw [e0] at HR
  clear e0
  obtain ⟨f1, f2, f3, f4, _, _⟩ := right_facts hr
  have f1 : 1 ≤ i := f1
  have f2 : i ≤ 65535 := f2
  have f3 : 0 ≤ o := f3
  have f4 : o ≤ 65535 := f4
  have HX : Hid (textP ⟨[], o, i, udpL⟩ = textL i ++ (47 :: udpL)) := Lib.hid (by
    rw [textP_yes hr]
    simp [ho, show (tcpL = udpL) = False from eq_false (by decide)])
  obtain ⟨TX, hTX⟩ : ∃ TX : Int → ByteArray, TX = fun n => ⟨(textL n).toArray⟩ := ⟨_, rfl⟩
  have HT : Hid (∀ (n : Int) (w0 : World), 0 ≤ n → n ≤ 65535 → Calls Tryd.prog 27 #[.int .i64 n] w0 fun e w' => e = .returned (.string (TX n)) ∧ Below w0.heap.size w0 w') := Lib.hid (fun n w0 g1 g2 => by rw [hTX]; exact RText_any n w0 (by omega) (by omega))
  have HTX : Hid (∀ n, (TX n).data.toList = textL n) := Lib.hid (fun n => by rw [hTX])
  have f5 : 0 ≤ i := by omega
  have hTOs : (TX o).size ≤ 6 := by rw [hTX]; exact textL_size f3 f4
  have hTIs : (TX i).size ≤ 6 := by rw [hTX]; exact textL_size f5 f2
  clear hTX
  have B0 : Hid (∀ c, Below w.heap.size w (w.alloc c)) := Lib.hid (fun c => (Below.refl _ _).alloc (Nat.le_refl _) _)
  clear hr
  obtain ⟨X, hX⟩ : ∃ X, textP ⟨[], o, i, udpL⟩ = X := ⟨_, rfl⟩
  rw [hX] at HX
  rw [hX]
  clear hX
  go_enter Tryd.func12, Tryd.ntmps12
  go_wp2_with first
    | (go_at_call 11; refine (HR.out _).mono ?_; rintro e w3 ⟨rfl, hb⟩; have HB := Lib.hid ((B0.out _).trans (hb.mono (by simp))); have HQ := Lib.hid ((bx4_new _ _ _ _ _ _).below hb); clear hb; obtain ⟨q0, q1, q2, q3, q4⟩ := HQ.out)
    | (go_at_call 27; refine (HT.out _ _ (by assumption) (by assumption)).mono ?_; rintro e w3 ⟨rfl, hb⟩; clear q0 q1 q2 q3 q4; replace HB := Lib.hid (HB.out.trans (hb.mono HB.out.size)); replace HQ := Lib.hid (HQ.out.below hb); clear hb; obtain ⟨q0, q1, q2, q3, q4⟩ := HQ.out)
  go_ret
  exact ⟨ret_sP (ba_extP (by simp [data_appP, HX.out, HTX.out, ba_data, udpL])), HB.out⟩
set_option maxRecDepth 100000 in
set_option maxHeartbeats 8000000 in
theorem RText16_eot (h : ByteArray) (o i : Int) (w : World) (hs : h.size ≤ 100000) (hr : rightB ⟨[], o, i, tcpL⟩ = true) (ho : 0 < o) :
    Calls Tryd.prog 12 #[.agg #[.string ByteArray.empty, .int .i64 o, .int .i64 i, .string ⟨#[116, 99, 112]⟩]] w fun e w' => e = .returned (.string (ba (textP ⟨[], o, i, tcpL⟩))) ∧ Below w.heap.size w w' := by
  have HR := Lib.hid (fun w0 => RRight_any ByteArray.empty ⟨#[116, 99, 112]⟩ o i w0 (by decide))
  have e0 : rightB ⟨(ByteArray.empty : ByteArray).data.toList, o, i, (⟨#[116, 99, 112]⟩ : ByteArray).data.toList⟩ = true := hr
  rw [e0] at HR
  clear e0
  obtain ⟨f1, f2, f3, f4, _, _⟩ := right_facts hr
  have f1 : 1 ≤ i := f1
  have f2 : i ≤ 65535 := f2
  have f3 : 0 ≤ o := f3
  have f4 : o ≤ 65535 := f4
  have HX : Hid (textP ⟨[], o, i, tcpL⟩ = textL o ++ [58] ++ textL i) := Lib.hid (by
    rw [textP_yes hr]
    simp [ho, show (tcpL = udpL) = False from eq_false (by decide)])
  obtain ⟨TX, hTX⟩ : ∃ TX : Int → ByteArray, TX = fun n => ⟨(textL n).toArray⟩ := ⟨_, rfl⟩
  have HT : Hid (∀ (n : Int) (w0 : World), 0 ≤ n → n ≤ 65535 → Calls Tryd.prog 27 #[.int .i64 n] w0 fun e w' => e = .returned (.string (TX n)) ∧ Below w0.heap.size w0 w') := Lib.hid (fun n w0 g1 g2 => by rw [hTX]; exact RText_any n w0 (by omega) (by omega))
  have HTX : Hid (∀ n, (TX n).data.toList = textL n) := Lib.hid (fun n => by rw [hTX])
  have f5 : 0 ≤ i := by omega
  have hTOs : (TX o).size ≤ 6 := by rw [hTX]; exact textL_size f3 f4
  have hTIs : (TX i).size ≤ 6 := by rw [hTX]; exact textL_size f5 f2
  clear hTX
  have B0 : Hid (∀ c, Below w.heap.size w (w.alloc c)) := Lib.hid (fun c => (Below.refl _ _).alloc (Nat.le_refl _) _)
  clear hr
  obtain ⟨X, hX⟩ : ∃ X, textP ⟨[], o, i, tcpL⟩ = X := ⟨_, rfl⟩
  rw [hX] at HX
  rw [hX]
  clear hX
  go_enter Tryd.func12, Tryd.ntmps12
  go_wp2_with first
    | (go_at_call 11; refine (HR.out _).mono ?_; rintro e w3 ⟨rfl, hb⟩; have HB := Lib.hid ((B0.out _).trans (hb.mono (by simp))); have HQ := Lib.hid ((bx4_new _ _ _ _ _ _).below hb); clear hb; obtain ⟨q0, q1, q2, q3, q4⟩ := HQ.out)
    | (go_at_call 27; refine (HT.out _ _ (by assumption) (by assumption)).mono ?_; rintro e w3 ⟨rfl, hb⟩; clear q0 q1 q2 q3 q4; replace HB := Lib.hid (HB.out.trans (hb.mono HB.out.size)); replace HQ := Lib.hid (HQ.out.below hb); clear hb; obtain ⟨q0, q1, q2, q3, q4⟩ := HQ.out)
  go_ret
  exact ⟨ret_sP (ba_extP (by simp [data_appP, HX.out, HTX.out, ba_data, udpL])), HB.out⟩
set_option maxRecDepth 100000 in
set_option maxHeartbeats 8000000 in
theorem RText16_eou (h : ByteArray) (o i : Int) (w : World) (hs : h.size ≤ 100000) (hr : rightB ⟨[], o, i, udpL⟩ = true) (ho : 0 < o) :
    Calls Tryd.prog 12 #[.agg #[.string ByteArray.empty, .int .i64 o, .int .i64 i, .string ⟨#[117, 100, 112]⟩]] w fun e w' => e = .returned (.string (ba (textP ⟨[], o, i, udpL⟩))) ∧ Below w.heap.size w w' := by
  have HR := Lib.hid (fun w0 => RRight_any ByteArray.empty ⟨#[117, 100, 112]⟩ o i w0 (by decide))
  have e0 : rightB ⟨(ByteArray.empty : ByteArray).data.toList, o, i, (⟨#[117, 100, 112]⟩ : ByteArray).data.toList⟩ = true := hr
  rw [e0] at HR
  clear e0
  obtain ⟨f1, f2, f3, f4, _, _⟩ := right_facts hr
  have f1 : 1 ≤ i := f1
  have f2 : i ≤ 65535 := f2
  have f3 : 0 ≤ o := f3
  have f4 : o ≤ 65535 := f4
  have HX : Hid (textP ⟨[], o, i, udpL⟩ = textL o ++ [58] ++ textL i ++ (47 :: udpL)) := Lib.hid (by
    rw [textP_yes hr]
    simp [ho, show (tcpL = udpL) = False from eq_false (by decide)])
  obtain ⟨TX, hTX⟩ : ∃ TX : Int → ByteArray, TX = fun n => ⟨(textL n).toArray⟩ := ⟨_, rfl⟩
  have HT : Hid (∀ (n : Int) (w0 : World), 0 ≤ n → n ≤ 65535 → Calls Tryd.prog 27 #[.int .i64 n] w0 fun e w' => e = .returned (.string (TX n)) ∧ Below w0.heap.size w0 w') := Lib.hid (fun n w0 g1 g2 => by rw [hTX]; exact RText_any n w0 (by omega) (by omega))
  have HTX : Hid (∀ n, (TX n).data.toList = textL n) := Lib.hid (fun n => by rw [hTX])
  have f5 : 0 ≤ i := by omega
  have hTOs : (TX o).size ≤ 6 := by rw [hTX]; exact textL_size f3 f4
  have hTIs : (TX i).size ≤ 6 := by rw [hTX]; exact textL_size f5 f2
  clear hTX
  have B0 : Hid (∀ c, Below w.heap.size w (w.alloc c)) := Lib.hid (fun c => (Below.refl _ _).alloc (Nat.le_refl _) _)
  clear hr
  obtain ⟨X, hX⟩ : ∃ X, textP ⟨[], o, i, udpL⟩ = X := ⟨_, rfl⟩
  rw [hX] at HX
  rw [hX]
  clear hX
  go_enter Tryd.func12, Tryd.ntmps12
  go_wp2_with first
    | (go_at_call 11; refine (HR.out _).mono ?_; rintro e w3 ⟨rfl, hb⟩; have HB := Lib.hid ((B0.out _).trans (hb.mono (by simp))); have HQ := Lib.hid ((bx4_new _ _ _ _ _ _).below hb); clear hb; obtain ⟨q0, q1, q2, q3, q4⟩ := HQ.out)
    | (go_at_call 27; refine (HT.out _ _ (by assumption) (by assumption)).mono ?_; rintro e w3 ⟨rfl, hb⟩; clear q0 q1 q2 q3 q4; replace HB := Lib.hid (HB.out.trans (hb.mono HB.out.size)); replace HQ := Lib.hid (HQ.out.below hb); clear hb; obtain ⟨q0, q1, q2, q3, q4⟩ := HQ.out)
  go_ret
  exact ⟨ret_sP (ba_extP (by simp [data_appP, HX.out, HTX.out, ba_data, udpL])), HB.out⟩
theorem RText16_any (h pr : ByteArray) (o i : Int) (w : World) (hs : h.size ≤ 100000) :
    Calls Tryd.prog 12 #[.agg #[.string h, .int .i64 o, .int .i64 i, .string pr]] w fun e w' => e = .returned (.string (ba (textP ⟨h.data.toList, o, i, pr.data.toList⟩))) ∧ Below w.heap.size w w' := by
  cases hr : rightB ⟨h.data.toList, o, i, pr.data.toList⟩ with
  | false => rw [textP_no hr]; exact RText16_no h pr o i w hs hr
  | true =>
    obtain ⟨_, _, _, _, f5, _⟩ := right_facts hr
    have f5 : pr.data.toList = tcpL ∨ pr.data.toList = udpL := f5
    by_cases hz : h.data.toList = []
    · obtain rfl : h = ByteArray.empty := ba_extP hz
      rcases f5 with e | e
      · obtain rfl : pr = ⟨#[116, 99, 112]⟩ := ba_extP e
        by_cases ho : 0 < o
        · exact RText16_eot _ o i w hs hr ho
        · exact RText16_ent _ o i w hs hr ho
      · obtain rfl : pr = ⟨#[117, 100, 112]⟩ := ba_extP e
        by_cases ho : 0 < o
        · exact RText16_eou _ o i w hs hr ho
        · exact RText16_enu _ o i w hs hr ho
    · rcases f5 with e | e
      · obtain rfl : pr = ⟨#[116, 99, 112]⟩ := ba_extP e
        by_cases ho : 0 < o
        · exact RText16_hot h o i w hs hz hr ho
        · exact RText16_hnt h o i w hs hz hr ho
      · obtain rfl : pr = ⟨#[117, 100, 112]⟩ := ba_extP e
        by_cases ho : 0 < o
        · exact RText16_hou h o i w hs hz hr ho
        · exact RText16_hnu h o i w hs hz hr ho
end Go.Proofs.YtkgfinhepbipeaaDoor
