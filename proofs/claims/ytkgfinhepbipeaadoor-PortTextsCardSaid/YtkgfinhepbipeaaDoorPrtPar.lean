/- The contract of Parse. -/
import Derived.Test.YtkgfinhepbipeaaDoorPrtTxt
import Derived.Test.YtkgfinhepbipeaaDoorRefPrt6
namespace Go.Proofs.YtkgfinhepbipeaaDoor
open Go.RowKit Go.Sort
open Nw Dg P16
set_option linter.unusedVariables false
theorem sl_len (s : L8) : (sl s).1.length ≤ s.length := by
  unfold sl
  cases h : firstS s with
  | none => exact Nat.le_refl _
  | some q =>
    obtain ⟨a, b⟩ := q
    obtain ⟨rfl, _⟩ := firstS_inv h
    dsimp only
    rw [List.length_append]; omega
theorem read_host (s : L8) : (readP s).host.length ≤ s.length := by
  have h1 := sl_len s
  have h2 := (cl_len (sl s).1).1
  have h3 := (cl_len (cl (sl s).1).1).1
  show (cl (cl (sl s).1).1).1.length ≤ _
  omega
theorem textP_small (p : Po) (h : p.host.length ≤ 100000) : (textP p).length ≤ 200000 := by
  cases hr : rightB p with
  | false => rw [textP_no hr]; exact Nat.zero_le _
  | true =>
    obtain ⟨h1, h2, h3, h4, h5, h6⟩ := right_facts hr
    have a1 := textL_len (n := p.inn) (by omega) h2
    have a2 := textL_len h3 h4
    rw [textP_yes hr, List.length_append, List.length_append, List.length_append]
    have b1 : (if p.host = [] then [] else p.host ++ [58]).length ≤ 100001 := by
      split
      · exact Nat.zero_le _
      · rw [List.length_append]; exact Nat.succ_le_succ h
    have b2 : (if 0 < p.out then textL p.out ++ [58] else if p.host = [] then [] else [58]).length ≤ 7 := by
      split
      · rw [List.length_append]; exact Nat.succ_le_succ a2
      · split <;> decide
    have b3 : (if p.proto = udpL then (47 :: udpL : L8) else []).length ≤ 4 := by
      split
      · decide
      · exact Nat.zero_le _
    omega
/-- The result's box, still empty, and that of the port that was read. -/
def BoxT (w0 W : World) (g : Nat) (h : ByteArray) (o i : Int) (pr : ByteArray) : Prop := BoxZ w0 W ∧ w0.heap.size < g ∧ Rw4 W g 24 (.string h) (.int .i64 o) (.int .i64 i) (.string pr)
theorem boxT_new {w0 W : World} (k : BoxZ w0 W) (h pr : ByteArray) (o i : Int) : BoxT w0 (W.alloc (.cells #[.string h, .int .i64 o, .int .i64 i, .string pr] 24)) W.heap.size h o i pr := ⟨⟨k.1.alloc k.1.size _, k.2.alloc _⟩, k.2.lt, Rw4.make W _ _ _ _ _⟩
theorem BoxT.go {w0 W W' : World} {g : Nat} {h pr : ByteArray} {o i : Int} (k : BoxT w0 W g h o i pr) (hb : Below W.heap.size W W') : BoxT w0 W' g h o i pr := ⟨k.1.go hb, k.2.1, k.2.2.below hb⟩
set_option maxRecDepth 100000 in
set_option maxHeartbeats 8000000 in
theorem Parse16_any (s : ByteArray) (w : World) (hw : SomeMax w) (hs : s.size ≤ 100000) :
    Calls Tryd.prog 7 #[.string s] w fun e w' => e = PrsE (prsP s.data.toList) ∧ Below w.heap.size w w' := by
  obtain ⟨p, hp⟩ : ∃ p, readP s.data.toList = p := ⟨_, rfl⟩
  obtain ⟨h, hh⟩ : ∃ h : ByteArray, ba p.host = h := ⟨_, rfl⟩
  obtain ⟨pr, hpr⟩ : ∃ pr : ByteArray, ba p.proto = pr := ⟨_, rfl⟩
  obtain ⟨o, ho⟩ : ∃ o, p.out = o := ⟨_, rfl⟩
  obtain ⟨i, hi⟩ : ∃ i, p.inn = i := ⟨_, rfl⟩
  have hd : p = ⟨h.data.toList, o, i, pr.data.toList⟩ := by rw [← hh, ← hpr, ← ho, ← hi, ba_data, ba_data]
  have HR : Hid (∀ w0, Calls Tryd.prog 20 #[.string s] w0 fun e w' => e = .returned (.agg #[.string h, .int .i64 o, .int .i64 i, .string pr]) ∧ Below w0.heap.size w0 w') := Lib.hid (fun w0 => by
    have := read_any s w0 hs
    unfold valP at this
    rw [hp, hh, hpr, ho, hi] at this
    exact this)
  have hhs : h.size ≤ 100000 := by
    have := read_host s.data.toList
    rw [hp, hd] at this
    have e1 : s.data.toList.length = s.size := rfl
    have e2 : h.data.toList.length = h.size := rfl
    dsimp only at this
    omega
  obtain ⟨T, hT⟩ : ∃ T : ByteArray, ba (textP p) = T := ⟨_, rfl⟩
  have hTd : T.data.toList = textP p := by rw [← hT, ba_data]
  have hTs : T.size ≤ 200000 := by
    show T.data.toList.length ≤ _
    rw [hTd]
    exact textP_small p (by rw [hd]; exact hhs)
  have HT := Lib.hid (fun w0 hw0 => Text16_any h pr o i w0 hw0 hhs)
  rw [← hd, hT] at HT
  have HP : Hid (prsP s.data.toList = if T.data.toList = [] ∨ (s.data.toList ≠ T.data.toList ∧ s.data.toList ≠ T.data.toList ++ 47 :: tcpL) then none else some p) := Lib.hid (by rw [hTd, ← hp, ← parse_is])
  have HZ := Lib.hid (boxZ_new w)
  have HW := Lib.hid hw
  have k1 : (9223372036854775807 < T.size + 1) = False := eq_false (by omega)
  have k2 : (9223372036854775807 < T.size + 1 + 3) = False := eq_false (by omega)
  have hcat : (T ++ ⟨#[47]⟩ ++ ⟨#[116, 99, 112]⟩).data.toList = T.data.toList ++ 47 :: tcpL := by rw [data_appP, data_appP, List.append_assoc]; rfl
  obtain ⟨U, hU⟩ : ∃ U, T ++ ⟨#[47]⟩ ++ ⟨#[116, 99, 112]⟩ = U := ⟨_, rfl⟩
  rw [hU] at hcat
  have HPS := Lib.hid (prsE_some h pr o i)
  rw [← hd] at HPS
  clear hp hh hpr ho hi hT hTd hd hw
  by_cases c1 : T.size = 0
  · have HE : Hid (PrsE (prsP s.data.toList) = .returned (.tuple #[.agg #[.string ⟨#[]⟩, .int .i64 0, .int .i64 0, .string ⟨#[]⟩], .int .i64 3])) := Lib.hid (by rw [HP.out, if_pos (.inl (List.length_eq_zero_iff.1 c1))]; rfl)
    have e3 := emp_yesP c1
    rw [HE.out]
    clear HP HE HPS hcat hU k1 k2 c1
    go_enter Tryd.func7, Tryd.ntmps7
    go_wp2_with first
      | (go_at_call 20; refine (HR.out _).mono ?_; rintro e w1 ⟨rfl, hb⟩; have HB := Lib.hid (boxT_new (HZ.out.go hb) h pr o i); clear hb; obtain ⟨x0, x1, x2, x3⟩ := HB.out.2.2.cells; have hlt := HB.out.2.2.lt)
      | (go_at_call 10; refine (HT.out _ (HW.out.keep HB.out.1.1)).mono ?_; rintro e w2 ⟨rfl, hb⟩; replace HB := Lib.hid (HB.out.go hb); clear hb x0 x1 x2 x3 hlt; obtain ⟨z0, z1, z2, z3⟩ := HB.out.1.2.cells; obtain ⟨r0, r1, r2, r3⟩ := HB.out.1.2.frozen; have hsz := HB.out.1.2.lt)
    have HF := HB.out.1.done (.string ⟨#[]⟩) (.int .i64 0) (.int .i64 0) (.string ⟨#[]⟩)
    obtain ⟨y0, y1, y2, y3⟩ := HF.2.cells
    exact bodyPost_ret (v := .tuple #[.agg #[.string ⟨#[]⟩, .int .i64 0, .int .i64 0, .string ⟨#[]⟩], .int .i64 3]) (by simp [results, Tryd.results7, go_sem, y0, y1, y2, y3]) rfl ⟨rfl, HF.1⟩
  have e3 := emp_noP c1
  have hne : T.data.toList ≠ [] := fun e => c1 (by rw [show T.size = T.data.toList.length from rfl, e]; rfl)
  by_cases c2 : s = T
  · have HE : Hid (PrsE (prsP s.data.toList) = .returned (.tuple #[.agg #[.string h, .int .i64 o, .int .i64 i, .string pr], .int .i64 0])) := Lib.hid (by
      rw [HP.out, if_neg (by rintro (e | e); exact hne e; exact e.1 (by rw [c2])), HPS.out])
    have e4 := eq_str c2
    have e5 : (s.toList != T.toList) = false := by rw [bne, e4]; rfl
    rw [HE.out]
    clear HP HE HPS hcat hU c1 hne
    have C2 := Lib.hid c2
    clear c2
    go_enter Tryd.func7, Tryd.ntmps7
    go_wp2_with first
      | (go_at_call 20; refine (HR.out _).mono ?_; rintro e w1 ⟨rfl, hb⟩; have HB := Lib.hid (boxT_new (HZ.out.go hb) h pr o i); clear hb; obtain ⟨x0, x1, x2, x3⟩ := HB.out.2.2.cells; have hlt := HB.out.2.2.lt)
      | (go_at_call 10; refine (HT.out _ (HW.out.keep HB.out.1.1)).mono ?_; rintro e w2 ⟨rfl, hb⟩; replace HB := Lib.hid (HB.out.go hb); clear hb x0 x1 x2 x3 hlt; obtain ⟨z0, z1, z2, z3⟩ := HB.out.1.2.cells; obtain ⟨r0, r1, r2, r3⟩ := HB.out.1.2.frozen; have hsz := HB.out.1.2.lt; obtain ⟨x0, x1, x2, x3⟩ := HB.out.2.2.cells; have hlt := HB.out.2.2.lt)
    have HF := HB.out.1.done (.string h) (.int .i64 o) (.int .i64 i) (.string pr)
    obtain ⟨y0, y1, y2, y3⟩ := HF.2.cells
    exact bodyPost_ret (v := .tuple #[.agg #[.string h, .int .i64 o, .int .i64 i, .string pr], .int .i64 0]) (by simp [results, Tryd.results7, go_sem, y0, y1, y2, y3]) rfl ⟨rfl, HF.1⟩
  have e4 := str_fP c2
  have e5 : (s.toList != T.toList) = true := by rw [bne, e4]; rfl
  by_cases c3 : s = U
  · have HE : Hid (PrsE (prsP s.data.toList) = .returned (.tuple #[.agg #[.string h, .int .i64 o, .int .i64 i, .string pr], .int .i64 0])) := Lib.hid (by
      rw [HP.out, if_neg (by rintro (e | e); exact hne e; exact e.2 (by rw [c3, hcat])), HPS.out])
    have e6 := eq_str c3
    have e7 : (s.toList != U.toList) = false := by rw [bne, e6]; rfl
    rw [HE.out]
    clear HP HE HPS hcat c1 hne
    have C2 := Lib.hid c2
    have C3 := Lib.hid c3
    clear c2 c3
    go_enter Tryd.func7, Tryd.ntmps7
    go_wp2_with first
      | (go_at_call 20; refine (HR.out _).mono ?_; rintro e w1 ⟨rfl, hb⟩; have HB := Lib.hid (boxT_new (HZ.out.go hb) h pr o i); clear hb; obtain ⟨x0, x1, x2, x3⟩ := HB.out.2.2.cells; have hlt := HB.out.2.2.lt)
      | (go_at_call 10; refine (HT.out _ (HW.out.keep HB.out.1.1)).mono ?_; rintro e w2 ⟨rfl, hb⟩; replace HB := Lib.hid (HB.out.go hb); clear hb x0 x1 x2 x3 hlt; obtain ⟨z0, z1, z2, z3⟩ := HB.out.1.2.cells; obtain ⟨r0, r1, r2, r3⟩ := HB.out.1.2.frozen; have hsz := HB.out.1.2.lt; obtain ⟨x0, x1, x2, x3⟩ := HB.out.2.2.cells; have hlt := HB.out.2.2.lt)
    have HF := HB.out.1.done (.string h) (.int .i64 o) (.int .i64 i) (.string pr)
    obtain ⟨y0, y1, y2, y3⟩ := HF.2.cells
    exact bodyPost_ret (v := .tuple #[.agg #[.string h, .int .i64 o, .int .i64 i, .string pr], .int .i64 0]) (by simp [results, Tryd.results7, go_sem, y0, y1, y2, y3]) rfl ⟨rfl, HF.1⟩
  have e6 := str_fP c3
  have e7 : (s.toList != U.toList) = true := by rw [bne, e6]; rfl
  have HE : Hid (PrsE (prsP s.data.toList) = .returned (.tuple #[.agg #[.string ⟨#[]⟩, .int .i64 0, .int .i64 0, .string ⟨#[]⟩], .int .i64 3])) := Lib.hid (by
    rw [HP.out, if_pos (.inr ⟨fun e => c2 (ba_extP e), fun e => c3 (ba_extP (by rw [hcat]; exact e))⟩)]; rfl)
  rw [HE.out]
  clear HP HE HPS hcat c1 hne
  have C2 := Lib.hid c2
  have C3 := Lib.hid c3
  clear c2 c3
  go_enter Tryd.func7, Tryd.ntmps7
  go_wp2_with first
    | (go_at_call 20; refine (HR.out _).mono ?_; rintro e w1 ⟨rfl, hb⟩; have HB := Lib.hid (boxT_new (HZ.out.go hb) h pr o i); clear hb; obtain ⟨x0, x1, x2, x3⟩ := HB.out.2.2.cells; have hlt := HB.out.2.2.lt)
    | (go_at_call 10; refine (HT.out _ (HW.out.keep HB.out.1.1)).mono ?_; rintro e w2 ⟨rfl, hb⟩; replace HB := Lib.hid (HB.out.go hb); clear hb x0 x1 x2 x3 hlt; obtain ⟨z0, z1, z2, z3⟩ := HB.out.1.2.cells; obtain ⟨r0, r1, r2, r3⟩ := HB.out.1.2.frozen; have hsz := HB.out.1.2.lt)
  have HF := HB.out.1.done (.string ⟨#[]⟩) (.int .i64 0) (.int .i64 0) (.string ⟨#[]⟩)
  obtain ⟨y0, y1, y2, y3⟩ := HF.2.cells
  exact bodyPost_ret (v := .tuple #[.agg #[.string ⟨#[]⟩, .int .i64 0, .int .i64 0, .string ⟨#[]⟩], .int .i64 3]) (by simp [results, Tryd.results7, go_sem, y0, y1, y2, y3]) rfl ⟨rfl, HF.1⟩
end Go.Proofs.YtkgfinhepbipeaaDoor
