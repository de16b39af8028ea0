/- The contract of Join, at lines that are not too many. -/
import Derived.Test.YtjhojedicehcfaaDoorLinFits
namespace Go.Proofs.YtjhojedicehcfaaDoor
open Go.RowKit Go.Sort
open Q6
set_option linter.unusedVariables false
theorem Row3.grown {w w' : World} {g : Nat} {t : TypeId} {a b c : Value} {row : Option Nat} (h : Row3 w g t a b c) (hg : w.grownBy w' row) (hn : row ≠ some g) : Row3 w' g t a b c :=
  (hg.block g h.lt (fun e => hn e.symm)).trans h
/-- A row of bytes is no line's block. -/
theorem own_no_line {w : World} {g base n : Nat} {v : Value} {a b c : Value} {xs : List Value} (h : w.ownsRow base 5 1 v n xs) (hr : Row3 w g 34 a b c) : v.ownBlock ≠ some g := by
  rcases h.2 with ⟨hv, _⟩ | ⟨g', cap, cur, hv, _, h3, _⟩
  · subst hv; intro e; cases e
  · subst hv
    intro e
    have hg : g' = g := by injection e
    subst hg
    unfold Row3 at hr
    rw [h3] at hr
    injection hr with hr
    injection hr with _ ht
    exact absurd ht (by decide)
theorem own_map {w : World} {base n : Nat} {v : Value} {l m : List UInt8} (h : w.ownsRow base 5 1 v n (l.map encB ++ m.map encB)) (hn : n = (l ++ m).length) : w.ownsRow base 5 1 v (l ++ m).length ((l ++ m).map encB) := by
  rw [← hn, List.map_append]; exact h
theorem rep_snoc (j : Nat) (c : UInt8) : List.replicate (j + 1) c = List.replicate j c ++ [c] := by rw [List.replicate_succ']
set_option maxRecDepth 100000 in
set_option maxHeartbeats 8000000 in
theorem Join_any (v : Value) (ls : List Ln) (w : World) (hv : LR w v ls) (hl : ls.length ≤ 100000) (hj : (joinL ls).length ≤ 100000) (q : ByteArray) (hq : joinL ls = q.data.toList) :
    Calls Tryd.prog 13 #[v] w fun e w' => e = .returned (.string q) ∧ Below w.heap.size w w' := by
  obtain ⟨i0, hi, hz0, hz1, hz2⟩ := infoB
  have HF := Lib.hid (fits_any v ls w hv hl hj)
  obtain ⟨A, cap, rfl, hcap, hcell⟩ := hv
  have HCELL := Lib.hid hcell
  clear hcell
  have HJ := Lib.hid hj
  have HQ := Lib.hid hq
  obtain ⟨n, hn⟩ : ∃ n, ls.length = n := ⟨_, rfl⟩
  have HN := Lib.hid hn
  rw [hn] at hcap hl HF ⊢
  clear hn hj hq
  go_enter Tryd.func13, Tryd.ntmps13
  go_wp2_with fail
  refine HF.out.mono ?_
  rintro e w1 ⟨rfl, hb1⟩
  have HB1 := Lib.hid hb1
  clear hb1
  go_wp2
  go_loopw [3, 11] (fun sv si wr => ∃ (k : Nat) (acc : List UInt8), k ≤ n ∧ acc.length ≤ 100000 ∧ si = .int .i64 (k : Int) ∧ wr.ownsRow w.heap.size 5 1 sv acc.length (acc.map encB) ∧ Hid (acc = joinL (ls.take k)) ∧ Hid (Below w.heap.size w wr)) (fun _ si _ => n - (intOf si).toNat)
  case atStart => exact ⟨0, [], Nat.zero_le _, Nat.zero_le _, rfl, owns_nil _ _ _, Lib.hid rfl, HB1⟩
  case round =>
    clear HB1
    obtain ⟨k, acc, hk, hac, rfl, hown, HA, HB⟩ := hrel
    by_cases hlt : k < n
    · have hkl : k < ls.length := by rw [HN.out]; exact hlt
      have hkz : (k : Int) < (n : Int) := by omega
      obtain ⟨g, rfl, hg, c0, c1, c2⟩ := HCELL.out k hkl
      obtain ⟨a, ha⟩ : ∃ a : Int, ((ls[k]'hkl).no : Int) = a := ⟨_, rfl⟩
      obtain ⟨b, hb⟩ : ∃ b : Nat, (ls[k]'hkl).ind = b := ⟨_, rfl⟩
      obtain ⟨t, ht⟩ : ∃ t : ByteArray, (⟨(ls[k]'hkl).text.toArray⟩ : ByteArray) = t := ⟨_, rfl⟩
      have htd : (ls[k]'hkl).text = t.data.toList := by rw [← ht]
      have hsum : joinL (ls.take (k + 1)) = acc ++ List.replicate b 32 ++ t.data.toList ++ [10] := by rw [join_next hkl, ← HA.out, hb, htd]; simp
      have hle : acc.length + b + t.size + 1 ≤ 100000 := by
        have h1 := join_take_le ls (k + 1)
        have h2 := HJ.out
        rw [hsum] at h1
        simp only [List.length_append, List.length_replicate, List.length_cons, List.length_nil, len_eq] at h1
        omega
      have HS := Lib.hid hsum
      rw [ha] at c0
      rw [hb] at c1
      rw [ht] at c2
      have d0 := (HB.out.cell (p := ⟨g, k * 3, none⟩) hg).trans c0
      have d1 := (HB.out.cell (p := ⟨g, k * 3 + 1, none⟩) hg).trans c1
      have d2 := (HB.out.cell (p := ⟨g, k * 3 + 2, none⟩) hg).trans c2
      have HO := Lib.hid hown
      clear hsum ha hb ht htd c0 c1 c2 hown
      have hrow0 : Row3 (wr.alloc (.cells #[.int .i64 a, .int .i64 (b : Int), .string t] 34)) wr.heap.size 34 (.int .i64 a) (.int .i64 (b : Int)) (.string t) := Row3.make wr _ _ _ _
      have HR0 := Lib.hid hrow0
      have HO0 := Lib.hid (HO.out.alloc (.cells #[.int .i64 a, .int .i64 (b : Int), .string t] 34))
      have HB0 := Lib.hid (HB.out.alloc HB.out.size (.cells #[.int .i64 a, .int .i64 (b : Int), .string t] 34))
      obtain ⟨X, hX⟩ : ∃ X, wr.heap.size = X := ⟨_, rfl⟩
      clear hrow0 HO
      go_wp2
      rw [hX] at HR0
      obtain ⟨wo, hwo⟩ : ∃ wo, wo = wr := ⟨_, rfl⟩
      subst hwo
      go_loopw [3, 17] (fun sv si wi => ∃ (j : Nat) (L : List UInt8), j ≤ b ∧ L.length = acc.length + j ∧ si = .int .i64 (j : Int) ∧ wi.ownsRow w.heap.size 5 1 sv L.length (L.map encB) ∧ Hid (L = acc ++ List.replicate j 32) ∧ Hid (Below w.heap.size w wi) ∧ Hid (Row3 wi X 34 (.int .i64 a) (.int .i64 (b : Int)) (.string t))) (fun _ si _ => b - (intOf si).toNat)
      case atStart => exact ⟨0, acc, Nat.zero_le _, rfl, rfl, HO0.out, Lib.hid (List.append_nil _).symm, HB0, HR0⟩
      case round =>
        clear HR0 HO0 HB0
        obtain ⟨j, L, hjb, hLl, rfl, hown, HL, HBi, HRi⟩ := hrel
        have hneX := own_no_line hown HRi.out
        by_cases hjl : j < b
        · have hjz : (j : Int) < (b : Int) := by omega
          obtain ⟨YS, hYS⟩ : ∃ YS, YS = L.map encB := ⟨_, rfl⟩
          obtain ⟨al, hal⟩ : ∃ al, L.length = al := ⟨_, rfl⟩
          rw [← hYS, hal] at hown
          have HYS := Lib.hid hYS
          have hal2 : al ≤ 100000 := by omega
          have HAL := Lib.hid hal
          have HLl := Lib.hid hLl
          have HN2 : Hid (L ++ [32] = acc ++ List.replicate (j + 1) 32) := Lib.hid (by rw [rep_snoc, HL.out, List.append_assoc])
          clear hYS hal hLl
          go_wp2_with (at_builtin; refine wpList_append_own _ rfl _ _ 48 rfl w.heap.size 5 i0 _ 1 1 Tryd.underlying48 hi hz0 hz1 hz2 rfl (by decide) _ _ _ rfl (hown.alloc _) ⟨wr.heap.size, 0, none⟩ 1 1 [.int .u8 32] rfl rfl (cells_new wr _ _) (one_one _) (by unfold maxLen; omega) (by omega) (by have := HBi.out.size; simp; omega) ?_)
          intro v' w2 hown' hgrow hnil
          have HW2 := Lib.hid hown'
          have HG2 := Lib.hid hgrow
          have HOy := Lib.hid hown
          clear hown' hgrow hown hnil
          go_wp2
          go_roundw
          case measure => simp [intOf]; omega
          case rel =>
            refine ⟨j + 1, L ++ [32], by omega, by rw [List.length_append, HLl.out]; rfl, by go_num, ?_, HN2, ?_, ?_⟩
            · rw [map_snoc, List.length_append, HAL.out, ← HYS.out]; exact HW2.out
            · refine Lib.hid ((HBi.out.alloc HBi.out.size _).grown HG2.out (by have := HBi.out.size; simp; omega) ?_)
              intro q hq
              exact (HOy.out.lt q hq).1
            · exact Lib.hid ((HRi.out.alloc _).grown HG2.out hneX)
        · obtain rfl : j = b := by omega
          obtain ⟨x0, x1, x2⟩ := HRi.out.cells
          obtain ⟨YS, hYS⟩ : ∃ YS, YS = L.map encB := ⟨_, rfl⟩
          obtain ⟨al, hal⟩ : ∃ al, L.length = al := ⟨_, rfl⟩
          rw [← hYS, hal] at hown
          have HYS := Lib.hid hYS
          have hal2 : al + t.size + 1 ≤ 100000 := by omega
          have HAL := Lib.hid hal
          have HLl := Lib.hid hLl
          clear hYS hal hLl hjl hjb
          go_wp2_with (at_builtin; refine Lib.wpList_append_own_string _ rfl _ _ 48 9 rfl w.heap.size 5 i0 Tryd.underlying48 Tryd.underlying9 hi hz0 hz1 hz2 _ _ _ rfl hown t rfl (by unfold maxLen; omega) (by omega) HBi.out.size ?_)
          intro v1 w2 hown' hgrow hnil
          have HOy := Lib.hid hown
          have HB2 := Lib.hid (HBi.out.grown hgrow HBi.out.size (fun q hq => (HOy.out.lt q hq).1))
          obtain ⟨ZS, hZS⟩ : ∃ ZS, ZS = YS ++ Lib.strCells t := ⟨_, rfl⟩
          rw [← hZS] at hown'
          have HZS := Lib.hid hZS
          obtain ⟨bl, hbl⟩ : ∃ bl, al + t.size = bl := ⟨_, rfl⟩
          rw [hbl] at hown' hal2
          have HBL := Lib.hid hbl
          clear hgrow hown hnil hZS hbl x0 x1 x2
          go_wp2_with (at_builtin; refine wpList_append_own _ rfl _ _ 48 rfl w.heap.size 5 i0 _ 1 1 Tryd.underlying48 hi hz0 hz1 hz2 rfl (by decide) _ _ _ rfl (hown'.alloc _) ⟨w2.heap.size, 0, none⟩ 1 1 [.int .u8 10] rfl rfl (cells_new w2 _ _) (one_one _) (by unfold maxLen; omega) (by omega) (by have := HB2.out.size; simp; omega) ?_)
          intro v2 w3 hown2 hgrow hnil
          have HW3 := Lib.hid hown2
          have HOz := Lib.hid hown'
          have HB3 := Lib.hid ((HB2.out.alloc HB2.out.size _).grown hgrow (by have := HB2.out.size; simp; omega) (fun q hq => (HOz.out.lt q hq).1))
          clear hgrow hown2 hown' hnil
          go_wp2
          go_roundw
          case measure => simp [intOf]; omega
          case rel =>
            refine ⟨k + 1, acc ++ List.replicate j 32 ++ t.data.toList ++ [10], by omega, ?_, by go_num, ?_, Lib.hid HS.out.symm, HB3⟩
            · simp only [List.length_append, List.length_replicate, List.length_cons, List.length_nil, len_eq]; omega
            · have h1 := HW3.out
              rw [HZS.out, HYS.out] at h1
              have h2 : (L.map encB ++ Lib.strCells t) ++ [.int .u8 10] = (L ++ t.data.toList ++ [10]).map encB := by
                rw [List.map_append, List.map_append]; rfl
              rw [h2] at h1
              have h3 : bl + 1 = (L ++ t.data.toList ++ [10]).length := by
                rw [List.length_append, List.length_append, HAL.out, len_eq, HBL.out]; rfl
              rw [h3, HL.out] at h1
              exact h1
    · obtain rfl : k = n := by omega
      have HE : Hid (acc = q.data.toList) := Lib.hid (by rw [HA.out, ← HQ.out, List.take_of_length_le (by rw [HN.out]; exact Nat.le_refl _)])
      rcases own_cases hown with ⟨hv, hA⟩ | ⟨g, cap2, hv2, hcv⟩
      · subst hv
        have HAn := Lib.hid hA
        clear hown hA
        have hcv := conv_nil wr
        go_wp2
        go_ret
        exact ⟨ret_s (bytes_ext (by rw [← HE.out, HAn.out])), HB.out⟩
      · subst hv2
        clear hown
        obtain ⟨Z, hZ⟩ : ∃ Z : ByteArray, Z = ⟨acc.toArray⟩ := ⟨_, rfl⟩
        rw [← hZ] at hcv
        have HZ := Lib.hid hZ
        clear hZ
        go_wp2
        go_ret
        exact ⟨ret_s (by rw [HZ.out]; exact bytes_ext (by rw [← HE.out])), HB.out⟩
end Go.Proofs.YtjhojedicehcfaaDoor
