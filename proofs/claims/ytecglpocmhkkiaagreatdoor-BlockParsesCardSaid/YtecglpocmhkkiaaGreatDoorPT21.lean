/- RefSplit -/
import Derived.Test.YtecglpocmhkkiaaGreatDoorPT19
import Derived.Test.YtecglpocmhkkiaaGreatDoorPT20
set_option linter.unusedVariables false
set_option linter.unusedSimpArgs false
set_option maxRecDepth 100000
set_option maxHeartbeats 16000000
open Go.Lib (hid)
namespace Go.Proofs.YtecglpocmhkkiaaGreatDoor
section
open Go.RowKit Go.Sort
open Q6
theorem Say_none (s : ByteArray) (w : World) (hs : s.size ≤ 100000) (h : sayL s.data.toList = none) :
  Calls Tryz.prog 37 #[.string s] w fun e w' => e = .returned (.tuple #[.string ⟨#[]⟩, .bool false]) ∧ Below w.heap.size w w' := by
 unfold sayL at h
 refine Say_any s w hs ⟨#[]⟩ false ?_ ?_
 ·cases he : endAt s.data.toList 0 with
  | none => rfl
  | some e => rw [he] at h; cases h
 ·cases he : endAt s.data.toList 0 with
  | none => rfl
  | some e => rw [he] at h; cases h
theorem Say_some (s q : ByteArray) (w : World) (hs : s.size ≤ 100000) (h : sayL s.data.toList = some q.data.toList) :
  Calls Tryz.prog 37 #[.string s] w fun e w' => e = .returned (.tuple #[.string q, .bool true]) ∧ Below w.heap.size w w' := by
 unfold sayL at h
 cases he : endAt s.data.toList 0 with
 | none => rw [he] at h; cases h
 | some e =>
  rw [he] at h
  exact Say_any s w hs q true (by rw [he]; exact Option.some.inj h) (by rw [he]; rfl)
theorem rowN_lt {l : List UInt8} {k : Nat} (h : k < rowN l) : k < l.length ∧ l.getD k 0 ≠ 10 := by
 induction l generalizing k with
 | nil => exact absurd h (Nat.not_lt_zero _)
 | cons c l ih =>
  by_cases hc : c = 10
  ·subst hc; rw [rowN_lf] at h; exact absurd h (Nat.not_lt_zero _)
  ·rw [rowN_ne l hc] at h
   cases k with
   | zero => exact ⟨Nat.succ_pos _, hc⟩
   | succ k =>
    have := ih (Nat.lt_of_succ_lt_succ h)
    exact ⟨Nat.succ_lt_succ this.1, this.2⟩
theorem rowN_at {l : List UInt8} (h : rowN l < l.length) : l.getD (rowN l) 0 = 10 := by
 induction l with
 | nil => exact absurd h (Nat.not_lt_zero _)
 | cons c l ih =>
  by_cases hc : c = 10
  ·subst hc; rfl
  ·rw [rowN_ne l hc] at h ⊢
   exact ih (Nat.lt_of_succ_lt_succ h)
theorem rowN_le (l : List UInt8) : rowN l ≤ l.length := by unfold rowN; exact takeWhile_le _ _
theorem indN_lt {l : List UInt8} {k : Nat} (h : k < indN l) : k < l.length ∧ l.getD k 0 = 32 := by
 induction l generalizing k with
 | nil => exact absurd h (Nat.not_lt_zero _)
 | cons c l ih =>
  unfold indN at h
  rw [List.takeWhile_cons] at h
  by_cases hc : c = 32
  ·rw [decide_eq_true hc] at h
   simp only [if_true, List.length_cons] at h
   cases k with
   | zero => exact ⟨Nat.succ_pos _, hc⟩
   | succ k =>
    have := ih (Nat.lt_of_succ_lt_succ h)
    exact ⟨Nat.succ_lt_succ this.1, this.2⟩
  ·rw [decide_eq_false hc] at h; exact absurd h (Nat.not_lt_zero _)
theorem own_nil3 (w : World) (e : TypeId) : (w.alloc (.cells #[] e)).ownsRow w.heap.size e 3 (.slice (some ⟨w.heap.size, 0, none⟩) 0 0) 0 [] := by
 refine ⟨rfl, .inr ⟨w.heap.size, 0, #[], rfl, Nat.le_refl _, ?_, Nat.zero_le _, Nat.zero_le _, rfl, rfl⟩⟩
 show (w.heap.push _)[w.heap.size]? = _
 simp
theorem from_data (s : ByteArray) (k : Nat) : (s.extract k s.size).data.toList = s.data.toList.drop k := by rw [Lib.extract_from]
theorem oneL_no {row : List UInt8} (h : sayL (row.drop (indN row)) = none) : oneL row = none := by unfold oneL; rw [h]
theorem oneL_yes {row t : List UInt8} (h : sayL (row.drop (indN row)) = some t) : oneL row = if indN row = 0 ∧ marker t = true then none else some (indN row, t) := by unfold oneL; rw [h]
theorem RSplit_any (s : ByteArray) (w : World) (hs : s.size ≤ 100000) (ls : List Ln) (n : Nat) (E : Int) (hf : fileL s.data.toList = (ls, n, E)) :
  Calls Tryz.prog 19 #[.string s] w (GivesL ls n E w) := by
 have HLEN0 := hid (len_eq s)
 by_cases hlen : (8192 : Int) < (s.size : Int)
 ·have HF : Hid (([], 0, 9) = (ls, n, E)) := hid (by rw [← hf]; unfold fileL; rw [if_pos (show 8192 < s.data.toList.length by rw [HLEN0.out]; omega)])
  clear hf
  go_enter Tryz.func19, Tryz.ntmps19
  go_wp2
  go_ret3
  have h := HF.out
  cases h
  exact ⟨_, rfl, lr_nil _, Below.refl _ _⟩
 obtain ⟨i0, hi, hz0, hz1, hz2⟩ := infoR
 have hwalk : splitL 0 [] s.data.toList = (ls, n, E) := by
  rw [← hf]
  unfold fileL
  rw [if_neg (show ¬ 8192 < s.data.toList.length by rw [HLEN0.out]; omega)]
 obtain ⟨R, hR⟩ : ∃ R, R = (ls, n, E) := ⟨_, rfl⟩
 rw [← hR] at hwalk
 have HR0 := hid hwalk
 have HRR := hid hR
 clear hwalk hR hf
 have HON := hid (own_nil3 w 52)
 go_enter Tryz.func19, Tryz.ntmps19
 go_wp2
 go_loopw [0, 5, 6] (fun s0 sv si wr => ∃ (no : Nat) (acc : List Ln) (u : ByteArray), no + u.size ≤ 100000 ∧ acc.length ≤ no ∧ s0 = .string u ∧ si = .int .i64 (no : Int) ∧ wr.ownsRow w.heap.size 52 3 sv acc.length (cellsN acc) ∧
  Hid (Below w.heap.size w wr) ∧ Hid (splitL no acc u.data.toList = R)) (fun s0 _ _ _ => Lib.strSize s0)
 case atStart => exact ⟨0, [], s, by omega, Nat.le_refl _, rfl, rfl, HON.out, hid ((Below.refl _ _).alloc (Nat.le_refl _) _), HR0⟩
 case round =>
  clear HR0 HON HLEN0
  obtain ⟨no, acc, u, hnu, hak, rfl, rfl, hown, HB, HW1⟩ := hrel
  by_cases hu0 : u.data.toList = []
  ·obtain rfl := bytes_of (l := #[]) hu0
   have HE : Hid ((acc, 0, 0) = R) := hid (by rw [← HW1.out]; exact (splitL_nil no acc).symm)
   have HO := hid hown
   clear hown hu0
   go_wp2
   go_ret3
   have h := HE.out.trans HRR.out
   cases h
   exact ⟨_, rfl, lr_of_owns HO.out, HB.out⟩
  ·have hup : 0 < u.size := by
    have := List.length_pos_iff.2 hu0
    rw [len_eq] at this; exact this
   have HU0 : Hid (u.data.toList ≠ []) := hid hu0
   obtain ⟨r, hr⟩ : ∃ r, rowN u.data.toList = r := ⟨_, rfl⟩
   have hru : r ≤ u.size := by rw [← hr, ← len_eq]; exact rowN_le _
   obtain ⟨rw_, hrw⟩ : ∃ x, u.extract 0 r = x := ⟨_, rfl⟩
   have hrd : rw_.data.toList = u.data.toList.take r := by rw [← hrw]; exact upto_data u r
   have hrs : rw_.size = r := by rw [← hrw, ByteArray.size_extract]; omega
   obtain ⟨I, hI⟩ : ∃ I, indN rw_.data.toList = I := ⟨_, rfl⟩
   have hIr : I ≤ r := by rw [← hI, ← hrs, ← len_eq]; exact indN_le _
   obtain ⟨y, hy⟩ : ∃ y, rw_.extract I rw_.size = y := ⟨_, rfl⟩
   have hyd : y.data.toList = rw_.data.toList.drop I := by rw [← hy]; exact from_data rw_ I
   have hys : y.size ≤ 100000 := by rw [← hy, ByteArray.size_extract]; omega
   rw [hrs] at hy
   have HRD := hid hrd
   have HR := hid hr
   have HRS := hid hrs
   have HI := hid hI
   have HYD := hid hyd
   obtain ⟨m, hm⟩ : ∃ m, u.size = m := ⟨_, rfl⟩
   have HM := hid hm
   rw [hm] at hnu hup hru
   have e0 : (0 : Int) < (m : Int) := by omega
   have kw : IntKind.i64.wrap ((no : Int) + 1) = (no : Int) + 1 := IntWalk.i64_in _ (by omega)
   have HO := hid hown
   clear hu0 hr hrd hI hyd hown
   have HLEN := hid (len_eq u)
   have HLENR := hid (len_eq rw_)
   go_wp2
   go_loop [7] (fun t7 => ∃ k : Nat, k ≤ r ∧ t7 = .int .i64 (k : Int)) (fun t7 => r - (intOf t7).toNat)
   case atStart => exact ⟨0, Nat.zero_le _, rfl⟩
   case round =>
    obtain ⟨k, hk, rfl⟩ := hrel
    by_cases hlt : k < r
    ·have hks : k < u.size := by omega
     have hskz : (k : Int) < (m : Int) := by omega
     obtain ⟨c, hc⟩ : ∃ c, u[k]'hks = c := ⟨_, rfl⟩
     have hne : c ≠ 10 := by rw [← hc, ← getd u k hks]; exact (rowN_lt (by rw [HR.out]; exact hlt)).2
     have m10 : ((c.toNat : Int) != 10) = true := byte_bne c 10 true (decide_eq_true (fun e => hne (UInt8.toNat_inj.1 e)))
     clear hne
     go_wp2
     go_round
     case rel => exact ⟨k + 1, by omega, by go_num⟩
     case measure => simp [intOf]; omega
    ·obtain rfl : k = r := by omega
     clear hlt hk
     by_cases hkm : k < m
     ·have hks : k < u.size := by omega
      have hskz : (k : Int) < (m : Int) := by omega
      have hskz' : (k : Int) ≤ (m : Int) := by omega
      have hk1z : (k : Int) + 1 ≤ (m : Int) := by omega
      have hk1 : k + 1 ≤ m := by omega
      obtain ⟨c, hc⟩ : ∃ c, u[k]'hks = c := ⟨_, rfl⟩
      have he : c = 10 := by
       rw [← hc, ← getd u k hks]
       have := rowN_at (l := u.data.toList) (by rw [HR.out, HLEN.out, HM.out]; exact hkm)
       rw [HR.out] at this; exact this
      have m10 : ((c.toNat : Int) != 10) = false := byte_bne c 10 false (by rw [he]; decide)
      have e1 : 0 ≤ (k : Int) + 1 := by omega
      have e2 : ((k : Int) + 1).toNat = k + 1 := by omega
      obtain ⟨z, hz⟩ : ∃ z, u.extract (k + 1) m = z := ⟨_, rfl⟩
      have HZ : Hid (z.data.toList = u.data.toList.drop (rowN u.data.toList + 1)) := hid (by rw [← hz, HR.out, ← HM.out]; exact from_data u (k + 1))
      have hzs : z.size + (k + 1) = m := by rw [← hz, ByteArray.size_extract]; omega
      have HZS := hid hzs
      clear he hzs
      go_wp2
      go_loop [9] (fun t9 => ∃ j : Nat, j ≤ I ∧ t9 = .int .i64 (j : Int)) (fun t9 => I - (intOf t9).toNat)
      case atStart => exact ⟨0, Nat.zero_le _, rfl⟩
      case round =>
       obtain ⟨j, hj, rfl⟩ := hrel
       by_cases hjl : j < I
       ·have hjs : j < rw_.size := by have := HRS.out; omega
        have hjz : (j : Int) < (k : Int) := by omega
        obtain ⟨d, hd⟩ : ∃ d, rw_[j]'hjs = d := ⟨_, rfl⟩
        have he : d = 32 := by rw [← hd, ← getd rw_ j hjs]; exact (indN_lt (by rw [HI.out]; exact hjl)).2
        have m32 : ((d.toNat : Int) == 32) = true := byte_beq d 32 true (by rw [he]; decide)
        clear he
        go_wp2
        go_round
        case rel => exact ⟨j + 1, by omega, by go_num⟩
        case measure => simp [intOf]; omega
       ·obtain rfl : j = I := by omega
        clear hjl hj
        have hIz : (j : Int) ≤ (k : Int) := by omega
        have HST : Hid (j < k → ∃ d : UInt8, rw_.data.toList.getD j 0 = d ∧ d ≠ 32) := hid (fun h => ⟨_, rfl, by
         have := drop_indN rw_.data.toList (by rw [HI.out, HLENR.out, HRS.out]; exact h)
         rw [HI.out] at this; exact this⟩)
        by_cases hjr : j < k
        ·have hjs : j < rw_.size := by have := HRS.out; omega
         have hjz : (j : Int) < (k : Int) := by omega
         obtain ⟨d, hd⟩ : ∃ d, rw_[j]'hjs = d := ⟨_, rfl⟩
         have m32 : ((d.toNat : Int) == 32) = false := by
          obtain ⟨d2, h1, h2⟩ := HST.out hjr
          have : d = d2 := by rw [← hd, ← h1]; exact (getd rw_ j hjs).symm
          subst this
          exact byte_beq d 32 false (decide_eq_false (fun e => h2 (UInt8.toNat_inj.1 e)))
         clear HST
         cases ho : sayL y.data.toList with
         | none =>
          have HE : Hid (([], no + 1, 3) = R) := hid (by
           rw [← HW1.out, splitL_bad HU0.out]
           rw [HR.out, ← HRD.out, oneL_no (by rw [HI.out, ← HYD.out]; exact ho)])
          have HS := hid (fun w0 => Say_none y w0 hys ho)
          clear ho
          go_wp2_with (go_at_call 37; refine (HS.out _).mono ?_; rintro e w2 ⟨rfl, hb2⟩)
          go_ret3
          have h := HE.out.trans HRR.out
          cases h
          exact ⟨_, rfl, lr_nil _, HB.out.trans (hb2.mono HB.out.size)⟩
         | some t0 =>
          obtain ⟨t, rfl⟩ : ∃ t : ByteArray, t0 = t.data.toList := ⟨⟨t0.toArray⟩, by simp⟩
          have HS := hid (fun w0 => Say_some y t w0 hys ho)
          have HO1 : Hid (oneL (u.data.toList.take (rowN u.data.toList)) = if j = 0 ∧ marker t.data.toList = true then none else some (j, t.data.toList)) := hid (by
           rw [HR.out, ← HRD.out, oneL_yes (t := t.data.toList) (by rw [HI.out, ← HYD.out]; exact ho), HI.out])
          clear ho
          by_cases hbad : j = 0 ∧ marker t.data.toList = true
          ·have HE : Hid (([], no + 1, 3) = R) := hid (by rw [← HW1.out, splitL_bad HU0.out (by rw [HO1.out, if_pos hbad])])
           obtain ⟨hj0, hmk⟩ := hbad
           have hmm : t.data.toList = [45, 45, 45] ∨ t.data.toList = [46, 46, 46] := by
            unfold marker at hmk
            rw [Bool.or_eq_true] at hmk
            exact hmk.imp of_decide_eq_true of_decide_eq_true
           have iz : ((j : Int) == 0) = true := by rw [hj0]; rfl
           clear hj0 hmk HO1
           rcases hmm with h3 | h3
           ·obtain rfl := bytes_of (l := #[45, 45, 45]) h3
            clear h3
            go_wp2_with (go_at_call 37; refine (HS.out _).mono ?_; rintro e w2 ⟨rfl, hb2⟩)
            go_ret3
            have h := HE.out.trans HRR.out
            cases h
            exact ⟨_, rfl, lr_nil _, HB.out.trans (hb2.mono HB.out.size)⟩
           ·obtain rfl := bytes_of (l := #[46, 46, 46]) h3
            clear h3
            go_wp2_with (go_at_call 37; refine (HS.out _).mono ?_; rintro e w2 ⟨rfl, hb2⟩)
            go_ret3
            have h := HE.out.trans HRR.out
            cases h
            exact ⟨_, rfl, lr_nil _, HB.out.trans (hb2.mono HB.out.size)⟩
          ·have HN : Hid (splitL (no + 1) (if t.data.toList = [] then acc else acc ++ [⟨no + 1, j, t.data.toList⟩]) z.data.toList = R) := hid (by rw [← HW1.out, splitL_next HU0.out (by rw [HO1.out, if_neg hbad]), ← HZ.out])
           have HM2 : Hid (((j : Int) == 0) = false ∨ (((j : Int) == 0) = true ∧ (t.toList == [45, 45, 45]) = false ∧ (t.toList == [46, 46, 46]) = false)) := hid (by
            by_cases h : j = 0
            ·refine .inr ⟨by rw [h]; rfl, ?_, ?_⟩
             ·rw [ByteArray.toList_eq]; exact beq_eq_false_iff_ne.2 (fun e => hbad ⟨h, by unfold marker; rw [decide_eq_true e]; rfl⟩)
             ·rw [ByteArray.toList_eq]; exact beq_eq_false_iff_ne.2 (fun e => hbad ⟨h, by unfold marker; rw [decide_eq_true e, Bool.or_true]⟩)
            ·exact .inl (beq_eq_false_iff_ne.2 (by omega)))
           clear hbad HO1
           by_cases ht : t.data.toList = []
           ·rw [if_pos ht] at HN
            obtain rfl := bytes_of (l := #[]) ht
            clear ht
            rcases HM2.out with h5 | ⟨h5, h6, h7⟩
            all_goals
             clear HM2
             go_wp2_with fail
             refine (HS.out _).mono ?_
             rintro e w2 ⟨rfl, hb2⟩
             have h3 := hid (owns_below HO.out hb2)
             have hb3 := hid (HB.out.trans (hb2.mono HB.out.size))
             clear hb2
             go_wp2
             go_roundw
             case measure => simp [Lib.strSize]; have := HZS.out; omega
             case rel => exact ⟨no + 1, acc, z, by have := HZS.out; omega, by omega, rfl, by go_num, h3.out, hb3, HN⟩
           ·rw [if_neg ht] at HN
            have htl : (0 : Int) < (t.size : Int) := by have := List.length_pos_iff.2 ht; rw [len_eq] at this; omega
            obtain ⟨YS, hYS⟩ : ∃ YS, YS = cellsN acc := ⟨_, rfl⟩
            obtain ⟨al, hal⟩ : ∃ al, acc.length = al := ⟨_, rfl⟩
            rw [← hYS, hal] at HO
            have HYS := hid hYS
            have hal2 : al ≤ 100000 := by omega
            have HAL := hid hal
            have HAK : Hid (al ≤ no) := hid (by omega)
            clear ht hYS hal hak
            rcases HM2.out with h5 | ⟨h5, h6, h7⟩
            all_goals
             clear HM2
             go_wp2_with fail
             refine (HS.out _).mono ?_
             rintro e w2 ⟨rfl, hb2⟩
             have h3 := owns_below HO.out hb2
             have hb3 := hid (HB.out.trans (hb2.mono HB.out.size))
             clear hb2
             go_wp2_with (at_builtin; refine wpList_append_own _ rfl _ _ 46 rfl w.heap.size 52 i0 _ 3 32 Tryz.underlying46 hi hz0 hz1 hz2 rfl (by decide) _ _ _ rfl (h3.alloc _) ⟨w2.heap.size, 0, none⟩ 1 1 [.int .i64 ((no : Int) + 1), .int .i64 (j : Int), .string t] rfl rfl (cells_new w2 _ _) (three_one _ _ _) (by unfold maxLen; omega) (by omega) (by have := hb3.out.size; simp; omega) ?_)
             intro v' w3 hown' hgrow hnil
             have HW2 := hid hown'
             have HG2 := hid hgrow
             have HOy := hid h3
             clear hown' hgrow h3 hnil
             go_wp2
             go_roundw
             case measure => simp [Lib.strSize]; have := HZS.out; omega
             case rel =>
              refine ⟨no + 1, acc ++ [⟨no + 1, j, t.data.toList⟩], z, by have := HZS.out; omega, by rw [List.length_append, HAL.out]; show al + 1 ≤ _; have := HAK.out; omega, rfl, by go_num, ?_, ?_, HN⟩
              ·rw [List.length_append, HAL.out, cellsN_snoc, ← HYS.out]; exact HW2.out
              ·exact hid ((hb3.out.alloc hb3.out.size _).grown HG2.out (by have := hb3.out.size; simp; omega) (fun q hq => (HOy.out.lt q hq).1))
        ·have hjz : ¬ (j : Int) < (k : Int) := by omega
         clear HST
         cases ho : sayL y.data.toList with
         | none =>
          have HE : Hid (([], no + 1, 3) = R) := hid (by
           rw [← HW1.out, splitL_bad HU0.out]
           rw [HR.out, ← HRD.out, oneL_no (by rw [HI.out, ← HYD.out]; exact ho)])
          have HS := hid (fun w0 => Say_none y w0 hys ho)
          clear ho
          go_wp2_with (go_at_call 37; refine (HS.out _).mono ?_; rintro e w2 ⟨rfl, hb2⟩)
          go_ret3
          have h := HE.out.trans HRR.out
          cases h
          exact ⟨_, rfl, lr_nil _, HB.out.trans (hb2.mono HB.out.size)⟩
         | some t0 =>
          obtain ⟨t, rfl⟩ : ∃ t : ByteArray, t0 = t.data.toList := ⟨⟨t0.toArray⟩, by simp⟩
          have HS := hid (fun w0 => Say_some y t w0 hys ho)
          have HO1 : Hid (oneL (u.data.toList.take (rowN u.data.toList)) = if j = 0 ∧ marker t.data.toList = true then none else some (j, t.data.toList)) := hid (by
           rw [HR.out, ← HRD.out, oneL_yes (t := t.data.toList) (by rw [HI.out, ← HYD.out]; exact ho), HI.out])
          clear ho
          by_cases hbad : j = 0 ∧ marker t.data.toList = true
          ·have HE : Hid (([], no + 1, 3) = R) := hid (by rw [← HW1.out, splitL_bad HU0.out (by rw [HO1.out, if_pos hbad])])
           obtain ⟨hj0, hmk⟩ := hbad
           have hmm : t.data.toList = [45, 45, 45] ∨ t.data.toList = [46, 46, 46] := by
            unfold marker at hmk
            rw [Bool.or_eq_true] at hmk
            exact hmk.imp of_decide_eq_true of_decide_eq_true
           have iz : ((j : Int) == 0) = true := by rw [hj0]; rfl
           clear hj0 hmk HO1
           rcases hmm with h3 | h3
           ·obtain rfl := bytes_of (l := #[45, 45, 45]) h3
            clear h3
            go_wp2_with (go_at_call 37; refine (HS.out _).mono ?_; rintro e w2 ⟨rfl, hb2⟩)
            go_ret3
            have h := HE.out.trans HRR.out
            cases h
            exact ⟨_, rfl, lr_nil _, HB.out.trans (hb2.mono HB.out.size)⟩
           ·obtain rfl := bytes_of (l := #[46, 46, 46]) h3
            clear h3
            go_wp2_with (go_at_call 37; refine (HS.out _).mono ?_; rintro e w2 ⟨rfl, hb2⟩)
            go_ret3
            have h := HE.out.trans HRR.out
            cases h
            exact ⟨_, rfl, lr_nil _, HB.out.trans (hb2.mono HB.out.size)⟩
          ·have HN : Hid (splitL (no + 1) (if t.data.toList = [] then acc else acc ++ [⟨no + 1, j, t.data.toList⟩]) z.data.toList = R) := hid (by rw [← HW1.out, splitL_next HU0.out (by rw [HO1.out, if_neg hbad]), ← HZ.out])
           have HM2 : Hid (((j : Int) == 0) = false ∨ (((j : Int) == 0) = true ∧ (t.toList == [45, 45, 45]) = false ∧ (t.toList == [46, 46, 46]) = false)) := hid (by
            by_cases h : j = 0
            ·refine .inr ⟨by rw [h]; rfl, ?_, ?_⟩
             ·rw [ByteArray.toList_eq]; exact beq_eq_false_iff_ne.2 (fun e => hbad ⟨h, by unfold marker; rw [decide_eq_true e]; rfl⟩)
             ·rw [ByteArray.toList_eq]; exact beq_eq_false_iff_ne.2 (fun e => hbad ⟨h, by unfold marker; rw [decide_eq_true e, Bool.or_true]⟩)
            ·exact .inl (beq_eq_false_iff_ne.2 (by omega)))
           clear hbad HO1
           by_cases ht : t.data.toList = []
           ·rw [if_pos ht] at HN
            obtain rfl := bytes_of (l := #[]) ht
            clear ht
            rcases HM2.out with h5 | ⟨h5, h6, h7⟩
            all_goals
             clear HM2
             go_wp2_with fail
             refine (HS.out _).mono ?_
             rintro e w2 ⟨rfl, hb2⟩
             have h3 := hid (owns_below HO.out hb2)
             have hb3 := hid (HB.out.trans (hb2.mono HB.out.size))
             clear hb2
             go_wp2
             go_roundw
             case measure => simp [Lib.strSize]; have := HZS.out; omega
             case rel => exact ⟨no + 1, acc, z, by have := HZS.out; omega, by omega, rfl, by go_num, h3.out, hb3, HN⟩
           ·rw [if_neg ht] at HN
            have htl : (0 : Int) < (t.size : Int) := by have := List.length_pos_iff.2 ht; rw [len_eq] at this; omega
            obtain ⟨YS, hYS⟩ : ∃ YS, YS = cellsN acc := ⟨_, rfl⟩
            obtain ⟨al, hal⟩ : ∃ al, acc.length = al := ⟨_, rfl⟩
            rw [← hYS, hal] at HO
            have HYS := hid hYS
            have hal2 : al ≤ 100000 := by omega
            have HAL := hid hal
            have HAK : Hid (al ≤ no) := hid (by omega)
            clear ht hYS hal hak
            rcases HM2.out with h5 | ⟨h5, h6, h7⟩
            all_goals
             clear HM2
             go_wp2_with fail
             refine (HS.out _).mono ?_
             rintro e w2 ⟨rfl, hb2⟩
             have h3 := owns_below HO.out hb2
             have hb3 := hid (HB.out.trans (hb2.mono HB.out.size))
             clear hb2
             go_wp2_with (at_builtin; refine wpList_append_own _ rfl _ _ 46 rfl w.heap.size 52 i0 _ 3 32 Tryz.underlying46 hi hz0 hz1 hz2 rfl (by decide) _ _ _ rfl (h3.alloc _) ⟨w2.heap.size, 0, none⟩ 1 1 [.int .i64 ((no : Int) + 1), .int .i64 (j : Int), .string t] rfl rfl (cells_new w2 _ _) (three_one _ _ _) (by unfold maxLen; omega) (by omega) (by have := hb3.out.size; simp; omega) ?_)
             intro v' w3 hown' hgrow hnil
             have HW2 := hid hown'
             have HG2 := hid hgrow
             have HOy := hid h3
             clear hown' hgrow h3 hnil
             go_wp2
             go_roundw
             case measure => simp [Lib.strSize]; have := HZS.out; omega
             case rel =>
              refine ⟨no + 1, acc ++ [⟨no + 1, j, t.data.toList⟩], z, by have := HZS.out; omega, by rw [List.length_append, HAL.out]; show al + 1 ≤ _; have := HAK.out; omega, rfl, by go_num, ?_, ?_, HN⟩
              ·rw [List.length_append, HAL.out, cellsN_snoc, ← HYS.out]; exact HW2.out
              ·exact hid ((hb3.out.alloc hb3.out.size _).grown HG2.out (by have := hb3.out.size; simp; omega) (fun q hq => (HOy.out.lt q hq).1))
     ·obtain rfl : k = m := by omega
      have HZ : Hid ((⟨#[]⟩ : ByteArray).data.toList = u.data.toList.drop (rowN u.data.toList + 1)) := hid (by rw [HR.out, List.drop_of_length_le (by have := HLEN.out; have := HM.out; omega)])
      have HZS : Hid ((⟨#[]⟩ : ByteArray).size + k = k) := hid (Nat.zero_add _)
      go_wp2
      go_loop [9] (fun t9 => ∃ j : Nat, j ≤ I ∧ t9 = .int .i64 (j : Int)) (fun t9 => I - (intOf t9).toNat)
      case atStart => exact ⟨0, Nat.zero_le _, rfl⟩
      case round =>
       obtain ⟨j, hj, rfl⟩ := hrel
       by_cases hjl : j < I
       ·have hjs : j < rw_.size := by have := HRS.out; omega
        have hjz : (j : Int) < (k : Int) := by omega
        obtain ⟨d, hd⟩ : ∃ d, rw_[j]'hjs = d := ⟨_, rfl⟩
        have he : d = 32 := by rw [← hd, ← getd rw_ j hjs]; exact (indN_lt (by rw [HI.out]; exact hjl)).2
        have m32 : ((d.toNat : Int) == 32) = true := byte_beq d 32 true (by rw [he]; decide)
        clear he
        go_wp2
        go_round
        case rel => exact ⟨j + 1, by omega, by go_num⟩
        case measure => simp [intOf]; omega
       ·obtain rfl : j = I := by omega
        clear hjl hj
        have hIz : (j : Int) ≤ (k : Int) := by omega
        have HST : Hid (j < k → ∃ d : UInt8, rw_.data.toList.getD j 0 = d ∧ d ≠ 32) := hid (fun h => ⟨_, rfl, by
         have := drop_indN rw_.data.toList (by rw [HI.out, HLENR.out, HRS.out]; exact h)
         rw [HI.out] at this; exact this⟩)
        by_cases hjr : j < k
        ·have hjs : j < rw_.size := by have := HRS.out; omega
         have hjz : (j : Int) < (k : Int) := by omega
         obtain ⟨d, hd⟩ : ∃ d, rw_[j]'hjs = d := ⟨_, rfl⟩
         have m32 : ((d.toNat : Int) == 32) = false := by
          obtain ⟨d2, h1, h2⟩ := HST.out hjr
          have : d = d2 := by rw [← hd, ← h1]; exact (getd rw_ j hjs).symm
          subst this
          exact byte_beq d 32 false (decide_eq_false (fun e => h2 (UInt8.toNat_inj.1 e)))
         clear HST
         cases ho : sayL y.data.toList with
         | none =>
          have HE : Hid (([], no + 1, 3) = R) := hid (by
           rw [← HW1.out, splitL_bad HU0.out]
           rw [HR.out, ← HRD.out, oneL_no (by rw [HI.out, ← HYD.out]; exact ho)])
          have HS := hid (fun w0 => Say_none y w0 hys ho)
          clear ho
          go_wp2_with (go_at_call 37; refine (HS.out _).mono ?_; rintro e w2 ⟨rfl, hb2⟩)
          go_ret3
          have h := HE.out.trans HRR.out
          cases h
          exact ⟨_, rfl, lr_nil _, HB.out.trans (hb2.mono HB.out.size)⟩
         | some t0 =>
          obtain ⟨t, rfl⟩ : ∃ t : ByteArray, t0 = t.data.toList := ⟨⟨t0.toArray⟩, by simp⟩
          have HS := hid (fun w0 => Say_some y t w0 hys ho)
          have HO1 : Hid (oneL (u.data.toList.take (rowN u.data.toList)) = if j = 0 ∧ marker t.data.toList = true then none else some (j, t.data.toList)) := hid (by
           rw [HR.out, ← HRD.out, oneL_yes (t := t.data.toList) (by rw [HI.out, ← HYD.out]; exact ho), HI.out])
          clear ho
          by_cases hbad : j = 0 ∧ marker t.data.toList = true
          ·have HE : Hid (([], no + 1, 3) = R) := hid (by rw [← HW1.out, splitL_bad HU0.out (by rw [HO1.out, if_pos hbad])])
           obtain ⟨hj0, hmk⟩ := hbad
           have hmm : t.data.toList = [45, 45, 45] ∨ t.data.toList = [46, 46, 46] := by
            unfold marker at hmk
            rw [Bool.or_eq_true] at hmk
            exact hmk.imp of_decide_eq_true of_decide_eq_true
           have iz : ((j : Int) == 0) = true := by rw [hj0]; rfl
           clear hj0 hmk HO1
           rcases hmm with h3 | h3
           ·obtain rfl := bytes_of (l := #[45, 45, 45]) h3
            clear h3
            go_wp2_with (go_at_call 37; refine (HS.out _).mono ?_; rintro e w2 ⟨rfl, hb2⟩)
            go_ret3
            have h := HE.out.trans HRR.out
            cases h
            exact ⟨_, rfl, lr_nil _, HB.out.trans (hb2.mono HB.out.size)⟩
           ·obtain rfl := bytes_of (l := #[46, 46, 46]) h3
            clear h3
            go_wp2_with (go_at_call 37; refine (HS.out _).mono ?_; rintro e w2 ⟨rfl, hb2⟩)
            go_ret3
            have h := HE.out.trans HRR.out
            cases h
            exact ⟨_, rfl, lr_nil _, HB.out.trans (hb2.mono HB.out.size)⟩
          ·have HN : Hid (splitL (no + 1) (if t.data.toList = [] then acc else acc ++ [⟨no + 1, j, t.data.toList⟩]) (⟨#[]⟩ : ByteArray).data.toList = R) := hid (by rw [← HW1.out, splitL_next HU0.out (by rw [HO1.out, if_neg hbad]), ← HZ.out])
           have HM2 : Hid (((j : Int) == 0) = false ∨ (((j : Int) == 0) = true ∧ (t.toList == [45, 45, 45]) = false ∧ (t.toList == [46, 46, 46]) = false)) := hid (by
            by_cases h : j = 0
            ·refine .inr ⟨by rw [h]; rfl, ?_, ?_⟩
             ·rw [ByteArray.toList_eq]; exact beq_eq_false_iff_ne.2 (fun e => hbad ⟨h, by unfold marker; rw [decide_eq_true e]; rfl⟩)
             ·rw [ByteArray.toList_eq]; exact beq_eq_false_iff_ne.2 (fun e => hbad ⟨h, by unfold marker; rw [decide_eq_true e, Bool.or_true]⟩)
            ·exact .inl (beq_eq_false_iff_ne.2 (by omega)))
           clear hbad HO1
           by_cases ht : t.data.toList = []
           ·rw [if_pos ht] at HN
            obtain rfl := bytes_of (l := #[]) ht
            clear ht
            rcases HM2.out with h5 | ⟨h5, h6, h7⟩
            all_goals
             clear HM2
             go_wp2_with fail
             refine (HS.out _).mono ?_
             rintro e w2 ⟨rfl, hb2⟩
             have h3 := hid (owns_below HO.out hb2)
             have hb3 := hid (HB.out.trans (hb2.mono HB.out.size))
             clear hb2
             go_wp2
             go_roundw
             case measure => simp [Lib.strSize]; have := HZS.out; omega
             case rel => exact ⟨no + 1, acc, ⟨#[]⟩, by have := HZS.out; omega, by omega, rfl, by go_num, h3.out, hb3, HN⟩
           ·rw [if_neg ht] at HN
            have htl : (0 : Int) < (t.size : Int) := by have := List.length_pos_iff.2 ht; rw [len_eq] at this; omega
            obtain ⟨YS, hYS⟩ : ∃ YS, YS = cellsN acc := ⟨_, rfl⟩
            obtain ⟨al, hal⟩ : ∃ al, acc.length = al := ⟨_, rfl⟩
            rw [← hYS, hal] at HO
            have HYS := hid hYS
            have hal2 : al ≤ 100000 := by omega
            have HAL := hid hal
            have HAK : Hid (al ≤ no) := hid (by omega)
            clear ht hYS hal hak
            rcases HM2.out with h5 | ⟨h5, h6, h7⟩
            all_goals
             clear HM2
             go_wp2_with fail
             refine (HS.out _).mono ?_
             rintro e w2 ⟨rfl, hb2⟩
             have h3 := owns_below HO.out hb2
             have hb3 := hid (HB.out.trans (hb2.mono HB.out.size))
             clear hb2
             go_wp2_with (at_builtin; refine wpList_append_own _ rfl _ _ 46 rfl w.heap.size 52 i0 _ 3 32 Tryz.underlying46 hi hz0 hz1 hz2 rfl (by decide) _ _ _ rfl (h3.alloc _) ⟨w2.heap.size, 0, none⟩ 1 1 [.int .i64 ((no : Int) + 1), .int .i64 (j : Int), .string t] rfl rfl (cells_new w2 _ _) (three_one _ _ _) (by unfold maxLen; omega) (by omega) (by have := hb3.out.size; simp; omega) ?_)
             intro v' w3 hown' hgrow hnil
             have HW2 := hid hown'
             have HG2 := hid hgrow
             have HOy := hid h3
             clear hown' hgrow h3 hnil
             go_wp2
             go_roundw
             case measure => simp [Lib.strSize]; have := HZS.out; omega
             case rel =>
              refine ⟨no + 1, acc ++ [⟨no + 1, j, t.data.toList⟩], ⟨#[]⟩, by have := HZS.out; omega, by rw [List.length_append, HAL.out]; show al + 1 ≤ _; have := HAK.out; omega, rfl, by go_num, ?_, ?_, HN⟩
              ·rw [List.length_append, HAL.out, cellsN_snoc, ← HYS.out]; exact HW2.out
              ·exact hid ((hb3.out.alloc hb3.out.size _).grown HG2.out (by have := hb3.out.size; simp; omega) (fun q hq => (HOy.out.lt q hq).1))
        ·have hjz : ¬ (j : Int) < (k : Int) := by omega
         clear HST
         cases ho : sayL y.data.toList with
         | none =>
          have HE : Hid (([], no + 1, 3) = R) := hid (by
           rw [← HW1.out, splitL_bad HU0.out]
           rw [HR.out, ← HRD.out, oneL_no (by rw [HI.out, ← HYD.out]; exact ho)])
          have HS := hid (fun w0 => Say_none y w0 hys ho)
          clear ho
          go_wp2_with (go_at_call 37; refine (HS.out _).mono ?_; rintro e w2 ⟨rfl, hb2⟩)
          go_ret3
          have h := HE.out.trans HRR.out
          cases h
          exact ⟨_, rfl, lr_nil _, HB.out.trans (hb2.mono HB.out.size)⟩
         | some t0 =>
          obtain ⟨t, rfl⟩ : ∃ t : ByteArray, t0 = t.data.toList := ⟨⟨t0.toArray⟩, by simp⟩
          have HS := hid (fun w0 => Say_some y t w0 hys ho)
          have HO1 : Hid (oneL (u.data.toList.take (rowN u.data.toList)) = if j = 0 ∧ marker t.data.toList = true then none else some (j, t.data.toList)) := hid (by
           rw [HR.out, ← HRD.out, oneL_yes (t := t.data.toList) (by rw [HI.out, ← HYD.out]; exact ho), HI.out])
          clear ho
          by_cases hbad : j = 0 ∧ marker t.data.toList = true
          ·have HE : Hid (([], no + 1, 3) = R) := hid (by rw [← HW1.out, splitL_bad HU0.out (by rw [HO1.out, if_pos hbad])])
           obtain ⟨hj0, hmk⟩ := hbad
           have hmm : t.data.toList = [45, 45, 45] ∨ t.data.toList = [46, 46, 46] := by
            unfold marker at hmk
            rw [Bool.or_eq_true] at hmk
            exact hmk.imp of_decide_eq_true of_decide_eq_true
           have iz : ((j : Int) == 0) = true := by rw [hj0]; rfl
           clear hj0 hmk HO1
           rcases hmm with h3 | h3
           ·obtain rfl := bytes_of (l := #[45, 45, 45]) h3
            clear h3
            go_wp2_with (go_at_call 37; refine (HS.out _).mono ?_; rintro e w2 ⟨rfl, hb2⟩)
            go_ret3
            have h := HE.out.trans HRR.out
            cases h
            exact ⟨_, rfl, lr_nil _, HB.out.trans (hb2.mono HB.out.size)⟩
           ·obtain rfl := bytes_of (l := #[46, 46, 46]) h3
            clear h3
            go_wp2_with (go_at_call 37; refine (HS.out _).mono ?_; rintro e w2 ⟨rfl, hb2⟩)
            go_ret3
            have h := HE.out.trans HRR.out
            cases h
            exact ⟨_, rfl, lr_nil _, HB.out.trans (hb2.mono HB.out.size)⟩
          ·have HN : Hid (splitL (no + 1) (if t.data.toList = [] then acc else acc ++ [⟨no + 1, j, t.data.toList⟩]) (⟨#[]⟩ : ByteArray).data.toList = R) := hid (by rw [← HW1.out, splitL_next HU0.out (by rw [HO1.out, if_neg hbad]), ← HZ.out])
           have HM2 : Hid (((j : Int) == 0) = false ∨ (((j : Int) == 0) = true ∧ (t.toList == [45, 45, 45]) = false ∧ (t.toList == [46, 46, 46]) = false)) := hid (by
            by_cases h : j = 0
            ·refine .inr ⟨by rw [h]; rfl, ?_, ?_⟩
             ·rw [ByteArray.toList_eq]; exact beq_eq_false_iff_ne.2 (fun e => hbad ⟨h, by unfold marker; rw [decide_eq_true e]; rfl⟩)
             ·rw [ByteArray.toList_eq]; exact beq_eq_false_iff_ne.2 (fun e => hbad ⟨h, by unfold marker; rw [decide_eq_true e, Bool.or_true]⟩)
            ·exact .inl (beq_eq_false_iff_ne.2 (by omega)))
           clear hbad HO1
           by_cases ht : t.data.toList = []
           ·rw [if_pos ht] at HN
            obtain rfl := bytes_of (l := #[]) ht
            clear ht
            rcases HM2.out with h5 | ⟨h5, h6, h7⟩
            all_goals
             clear HM2
             go_wp2_with fail
             refine (HS.out _).mono ?_
             rintro e w2 ⟨rfl, hb2⟩
             have h3 := hid (owns_below HO.out hb2)
             have hb3 := hid (HB.out.trans (hb2.mono HB.out.size))
             clear hb2
             go_wp2
             go_roundw
             case measure => simp [Lib.strSize]; have := HZS.out; omega
             case rel => exact ⟨no + 1, acc, ⟨#[]⟩, by have := HZS.out; omega, by omega, rfl, by go_num, h3.out, hb3, HN⟩
           ·rw [if_neg ht] at HN
            have htl : (0 : Int) < (t.size : Int) := by have := List.length_pos_iff.2 ht; rw [len_eq] at this; omega
            obtain ⟨YS, hYS⟩ : ∃ YS, YS = cellsN acc := ⟨_, rfl⟩
            obtain ⟨al, hal⟩ : ∃ al, acc.length = al := ⟨_, rfl⟩
            rw [← hYS, hal] at HO
            have HYS := hid hYS
            have hal2 : al ≤ 100000 := by omega
            have HAL := hid hal
            have HAK : Hid (al ≤ no) := hid (by omega)
            clear ht hYS hal hak
            rcases HM2.out with h5 | ⟨h5, h6, h7⟩
            all_goals
             clear HM2
             go_wp2_with fail
             refine (HS.out _).mono ?_
             rintro e w2 ⟨rfl, hb2⟩
             have h3 := owns_below HO.out hb2
             have hb3 := hid (HB.out.trans (hb2.mono HB.out.size))
             clear hb2
             go_wp2_with (at_builtin; refine wpList_append_own _ rfl _ _ 46 rfl w.heap.size 52 i0 _ 3 32 Tryz.underlying46 hi hz0 hz1 hz2 rfl (by decide) _ _ _ rfl (h3.alloc _) ⟨w2.heap.size, 0, none⟩ 1 1 [.int .i64 ((no : Int) + 1), .int .i64 (j : Int), .string t] rfl rfl (cells_new w2 _ _) (three_one _ _ _) (by unfold maxLen; omega) (by omega) (by have := hb3.out.size; simp; omega) ?_)
             intro v' w3 hown' hgrow hnil
             have HW2 := hid hown'
             have HG2 := hid hgrow
             have HOy := hid h3
             clear hown' hgrow h3 hnil
             go_wp2
             go_roundw
             case measure => simp [Lib.strSize]; have := HZS.out; omega
             case rel =>
              refine ⟨no + 1, acc ++ [⟨no + 1, j, t.data.toList⟩], ⟨#[]⟩, by have := HZS.out; omega, by rw [List.length_append, HAL.out]; show al + 1 ≤ _; have := HAK.out; omega, rfl, by go_num, ?_, ?_, HN⟩
              ·rw [List.length_append, HAL.out, cellsN_snoc, ← HYS.out]; exact HW2.out
              ·exact hid ((hb3.out.alloc hb3.out.size _).grown HG2.out (by have := hb3.out.size; simp; omega) (fun q hq => (HOy.out.lt q hq).1))
end
end Go.Proofs.YtecglpocmhkkiaaGreatDoor
