/- LineBack: splitting the joined lines of a split file gives the same lines, numbered anew. -/
import Derived.Test.YtjhojedicehcfaaDoorLinJoin
import Derived.Test.YtjhojedicehcfaaDoorLinLaw1
namespace Go.Proofs.YtjhojedicehcfaaDoor
open Go.RowKit Go.Sort
open Q6
set_option linter.unusedVariables false
theorem again_len : ∀ (ls : List Ln) (no : Nat), (again no ls).length = ls.length
  | [], _ => rfl
  | x :: ls, no => by unfold again; rw [List.length_cons, List.length_cons, again_len ls]
theorem again_at : ∀ (ls : List Ln) (no k : Nat) (h : k < ls.length) (h2 : k < (again no ls).length), (again no ls)[k]'h2 = ⟨no + k + 1, (ls[k]'h).ind, (ls[k]'h).text⟩
  | x :: ls, no, 0, _, _ => rfl
  | x :: ls, no, k + 1, h, h2 => by
    have ih := again_at ls (no + 1) k (Nat.lt_of_succ_lt_succ h) (by rw [again_len]; exact Nat.lt_of_succ_lt_succ h)
    show (again (no + 1) ls)[k]'_ = _
    rw [ih]
    show (⟨no + 1 + k + 1, _, _⟩ : Ln) = ⟨no + (k + 1) + 1, _, _⟩
    rw [show no + 1 + k + 1 = no + (k + 1) + 1 by omega]
    rfl
theorem again_join : ∀ (ls : List Ln) (no : Nat), joinL (again no ls) = joinL ls
  | [], _ => rfl
  | x :: ls, no => by
    unfold again
    rw [joinL_cons, joinL_cons, again_join ls]; rfl
theorem splitL_err (n : Nat) : ∀ (l : List UInt8) (no : Nat) (acc ls : List Ln) (m : Nat) (E : Int), l.length ≤ n → splitL no acc l = (ls, m, E) → E ≠ 0 → ls = [] := by
  induction n with
  | zero =>
    intro l no acc ls m E hl h hE
    obtain rfl : l = [] := List.length_eq_zero_iff.1 (by omega)
    rw [splitL_nil] at h
    cases h; exact absurd rfl hE
  | succ n ih =>
    intro l no acc ls m E hl h hE
    by_cases he : l = []
    · subst he; rw [splitL_nil] at h; cases h; exact absurd rfl hE
    · have hpos := List.length_pos_iff.2 he
      cases ho : oneL (l.take (rowN l)) with
      | none => rw [splitL_bad he ho] at h; cases h; rfl
      | some p =>
        obtain ⟨k, t⟩ := p
        rw [splitL_next he ho] at h
        exact ih _ _ _ ls m E (by rw [List.length_drop]; omega) h hE
theorem fileL_err {l : List UInt8} {ls : List Ln} {m : Nat} {E : Int} (h : fileL l = (ls, m, E)) (hE : E ≠ 0) : ls = [] := by
  unfold fileL at h
  split at h
  · cases h; rfl
  · exact splitL_err _ l 0 [] ls m E (Nat.le_refl _) h hE
theorem fileL_fine {l : List UInt8} {ls : List Ln} {m : Nat} (h : fileL l = (ls, m, 0)) : (∀ x ∈ ls, Fine x) ∧ (joinL ls).length ≤ l.length + 1 := by
  unfold fileL at h
  split at h
  · have h3 : (9 : Int) = 0 := congrArg (fun p => p.2.2) h
    exact absurd h3 (by decide)
  · obtain ⟨h1, -, h3⟩ := split_fine _ l 0 [] ls m (Nat.le_refl _) (fun x hx => by cases hx) h
    refine ⟨h1, ?_⟩
    rw [joinL_nil] at h3
    split at h3
    · simp at h3; omega
    · simp at h3; omega
theorem fileL_again {ls : List Ln} (h : ∀ x ∈ ls, Fine x) (hs : (joinL ls).length ≤ 8192) : fileL (joinL ls) = (again 0 ls, 0, 0) := by
  unfold fileL
  rw [if_neg (by omega), split_join ls 0 [] h, List.nil_append]
set_option maxRecDepth 100000 in
set_option maxHeartbeats 8000000 in
theorem LineBack_walk (s : ByteArray) (hs : s.size ≤ maxLen) (w : World) (hw : SomeMax w) :
    Calls Tryd.prog 5 #[.string s] w fun e w' => e = .returned (.bool true) ∧ Below w.heap.size w w' := by
  unfold maxLen at hs
  have HW := Lib.hid hw
  clear hw
  by_cases hlen : (8000 : Int) < (s.size : Int)
  · go_enter Tryd.func5, Tryd.ntmps5
    go_wp2_with (go_at_call 6; refine (awake_any _ HW.out).mono ?_; rintro e w5 ⟨rfl, hb5⟩)
    go_ret
    exact ⟨rfl, hb5⟩
  have hs2 : s.size ≤ 100000 := by omega
  obtain ⟨r, hr⟩ : ∃ r, fileL s.data.toList = r := ⟨_, rfl⟩
  obtain ⟨ls, n, E⟩ := r
  have HC := Lib.hid (Split_any s w HW.out hs2 ls n E hr)
  by_cases hE : E = 0
  · subst hE
    obtain ⟨hfine, hjl⟩ := fileL_fine hr
    rw [len_eq] at hjl
    have hll : ls.length ≤ 100000 := by
      have := fileL_len s.data.toList
      rw [hr, len_eq] at this
      exact Nat.le_trans this hs2
    obtain ⟨q, hq⟩ : ∃ q : ByteArray, joinL ls = q.data.toList := ⟨⟨(joinL ls).toArray⟩, by simp⟩
    have hqs : q.size ≤ s.size + 1 := by rw [← len_eq, ← hq]; exact hjl
    have hfq : fileL q.data.toList = (again 0 ls, 0, 0) := by rw [← hq]; exact fileL_again hfine (by omega)
    have HJ := Lib.hid (fun v w0 h0 => Join_any v ls w0 h0 hll (by omega) q hq)
    have HJ2 := Lib.hid (fun v w0 h0 => Join_any v (again 0 ls) w0 h0 (by rw [again_len]; exact hll) (by rw [again_join]; omega) q (by rw [again_join]; exact hq))
    have HC2 := Lib.hid (fun w0 h0 => Split_any q w0 h0 (by omega) (again 0 ls) 0 0 hfq)
    have HFI := Lib.hid hfine
    have HLL := Lib.hid hll
    have HJL : Hid ((joinL ls).length ≤ 100000) := Lib.hid (by omega)
    have hqz : ¬ (s.size : Int) + 1 < (q.size : Int) := by omega
    have qq : (q.toList != q.toList) = false := by simp
    clear hr hfine hjl hq hfq hll hqs
    go_enter Tryd.func5, Tryd.ntmps5
    go_wp2_with fail
    refine HC.out.mono ?_
    rintro e w1 ⟨v1, rfl, hl1, hb1⟩
    have HL1 := Lib.hid hl1
    have HB1 := Lib.hid hb1
    clear hl1 hb1
    go_wp2_with fail
    refine (HJ.out v1 w1 HL1.out).mono ?_
    rintro e w2 ⟨rfl, hb2⟩
    have HL1b := Lib.hid (HL1.out.below hb2)
    have HB2 := Lib.hid (belowNext HB1.out hb2)
    clear hb2
    go_wp2_with fail
    refine (HC2.out w2 (HW.out.keep HB2.out)).mono ?_
    rintro e w3 ⟨v2, rfl, hl3, hb3⟩
    have HL1c := Lib.hid (HL1b.out.below hb3)
    have HL2 := Lib.hid hl3
    have HB3 := Lib.hid (belowNext HB2.out hb3)
    clear hl3 hb3
    go_wp2_with fail
    refine (taken_any v1 ls w3 HL1c.out HLL.out).mono ?_
    rintro e w4 ⟨v3, rfl, hl4, hb4⟩
    have HL3 := Lib.hid hl4
    have HL2b := Lib.hid (HL2.out.below hb4)
    have HB4 := Lib.hid (belowNext HB3.out hb4)
    clear hl4 hb4
    go_wp2_with fail
    refine (taken_any v2 (again 0 ls) w4 HL2b.out (by rw [again_len]; exact HLL.out)).mono ?_
    rintro e w5 ⟨v4, rfl, hl5, hb5⟩
    have HL4 := Lib.hid hl5
    have HL3b := Lib.hid (HL3.out.below hb5)
    have HL2c := Lib.hid (HL2b.out.below hb5)
    have HB5 := Lib.hid (belowNext HB4.out hb5)
    clear hl5 hb5
    go_wp2_with fail
    refine (Same_any v3 v4 ls (again 0 ls) w5 HL3b.out HL4.out (again_len ls 0).symm HLL.out (fun k a b => by rw [again_at ls 0 k a b]; exact ⟨rfl, rfl⟩)).mono ?_
    rintro e w6 ⟨rfl, hb6⟩
    have HL2d := Lib.hid (HL2c.out.below hb6)
    have HB6 := Lib.hid (belowNext HB5.out hb6)
    clear hb6
    go_wp2_with fail
    refine (HJ2.out v2 w6 HL2d.out).mono ?_
    rintro e w7 ⟨rfl, hb7⟩
    have hl7 := HL2d.out.below hb7
    have HB7 := Lib.hid (belowNext HB6.out hb7)
    clear hb7
    obtain ⟨A, cap, rfl, hcap, hcell⟩ := hl7
    have HCELL := Lib.hid hcell
    have HAL := Lib.hid (again_len ls 0)
    have HNN := Lib.hid HLL.out
    obtain ⟨N, hN⟩ : ∃ N, (again 0 ls).length = N := ⟨_, rfl⟩
    have HN := Lib.hid hN
    have hN2 : N ≤ 100000 := by rw [← hN, HAL.out]; exact HLL.out
    rw [hN] at hcap ⊢
    clear hcell hN
    go_wp2
    go_loop [10] (fun ti => ∃ k : Nat, k ≤ N ∧ ti = .int .i64 (k : Int)) (fun ti => N - (intOf ti).toNat)
    case atStart => exact ⟨0, Nat.zero_le _, rfl⟩
    case round =>
      obtain ⟨k, hk, rfl⟩ := hrel
      by_cases hlt : k < N
      · have hkl2 : k < (again 0 ls).length := by rw [HN.out]; exact hlt
        have hkl : k < ls.length := by rw [← HAL.out]; exact hkl2
        have hkz : (k : Int) < (N : Int) := by omega
        obtain ⟨g, rfl, hg, c0, c1, c2⟩ := HCELL.out k hkl2
        rw [again_at ls 0 k hkl hkl2] at c0 c1 c2
        obtain ⟨f1, -, f3, f4, f5, -, -⟩ := HFI.out (ls[k]'hkl) (List.getElem_mem hkl)
        obtain ⟨t, ht⟩ : ∃ t : ByteArray, (⟨(ls[k]'hkl).text.toArray⟩ : ByteArray) = t := ⟨_, rfl⟩
        have htd : (ls[k]'hkl).text = t.data.toList := by rw [← ht]
        have d0 : w7.cell? ⟨g, k * 3, none⟩ = some (.int .i64 ((k : Int) + 1)) := by
          rw [c0]
          show some (Value.int .i64 ((0 + k + 1 : Nat) : Int)) = _
          rw [show ((0 + k + 1 : Nat) : Int) = (k : Int) + 1 by omega]
        have d2 : w7.cell? ⟨g, k * 3 + 2, none⟩ = some (.string t) := by rw [c2, ← ht]
        have hts : t.size ≤ 100000 := by
          have h1 := join_take_le ls (k + 1)
          have h2 := HJL.out
          have h3 := join_len hkl
          rw [htd, len_eq] at h3
          omega
        rw [htd] at f1 f3 f4 f5
        have hpos : 0 < t.size := by have := List.length_pos_iff.2 f1; rw [len_eq] at this; exact this
        obtain ⟨z, hz⟩ : ∃ z, t.size = z + 1 := ⟨t.size - 1, by omega⟩
        have hz0 : 0 < t.size := hpos
        have hzz : z < t.size := by omega
        rw [len_eq, hz, Nat.add_sub_cancel] at f5
        obtain ⟨x, hx⟩ : ∃ x, t[0]'hz0 = x := ⟨_, rfl⟩
        obtain ⟨y, hy⟩ : ∃ y, t[z]'hzz = y := ⟨_, rfl⟩
        have x32 : ((x.toNat : Int) == 32) = false := byte_beq x 32 false (decide_eq_false (fun e => f3 (by rw [getd t 0 hz0, hx]; exact UInt8.toNat_inj.1 e)))
        have x35 : ((x.toNat : Int) == 35) = false := byte_beq x 35 false (decide_eq_false (fun e => f4 (by rw [getd t 0 hz0, hx]; exact UInt8.toNat_inj.1 e)))
        have y32 : ((y.toNat : Int) == 32) = false := byte_beq y 32 false (decide_eq_false (fun e => f5 (by rw [getd t z hzz, hy]; exact UInt8.toNat_inj.1 e)))
        have b0 : t.toList.isEmpty = false := by rw [ByteArray.toList_eq, List.isEmpty_eq_false_iff]; exact f1
        have b0' : ¬ t.toList = [] := by rw [ByteArray.toList_eq]; exact f1
        have n0 : ((k : Int) + 1 != (k : Int) + 1) = false := by simp
        have e2 : IntKind.i64.wrap ((z : Int) + 1 - 1) = (z : Int) := by rw [Int.add_sub_cancel]; exact IntWalk.i64_in _ (by omega)
        have ezz : (z : Int) < (z : Int) + 1 := by omega
        have e0z : (0 : Int) < (z : Int) + 1 := by omega
        clear f1 f3 f4 f5 c0 c1 c2 ht htd hpos
        go_wp2
        go_round
        case rel => exact ⟨k + 1, by omega, by go_num⟩
        case measure => simp [intOf]; omega
      · obtain rfl : k = N := by omega
        go_wp2_with fail
        refine (awake_any w7 (HW.out.keep HB7.out)).mono ?_
        rintro e w8 ⟨rfl, hb8⟩
        have HB8 := Lib.hid (belowNext HB7.out hb8)
        clear hb8
        go_wp2
        go_ret
        exact ⟨rfl, HB8.out⟩
  · have hls := fileL_err hr hE
    subst hls
    have hEb : (E != 0) = true := bne_iff_ne.2 hE
    clear hr hE
    go_enter Tryd.func5, Tryd.ntmps5
    go_wp2_with fail
    refine HC.out.mono ?_
    rintro e w1 ⟨v1, rfl, hl1, hb1⟩
    have HB1 := Lib.hid hb1
    obtain ⟨A, cap, rfl, hcap, hcell⟩ := hl1
    clear hb1 hcell
    go_wp2_with fail
    refine (awake_any w1 (HW.out.keep HB1.out)).mono ?_
    rintro e w5 ⟨rfl, hb5⟩
    have HB5 := Lib.hid (belowNext HB1.out hb5)
    clear hb5
    go_wp2
    go_ret
    exact ⟨rfl, HB5.out⟩
end Go.Proofs.YtjhojedicehcfaaDoor
