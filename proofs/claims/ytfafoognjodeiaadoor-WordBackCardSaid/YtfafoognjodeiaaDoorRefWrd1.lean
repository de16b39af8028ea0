/- The reference's words on pieces: blank, piece. -/
import Derived.Test.YtfafoognjodeiaaDoorWrdMath
import Derived.Test.YtfafoognjodeiaaDoorNamKinds
import Derived.Test.YtfafoognjodeiaaDoorNamRd
import Derived.Deep.LoopGhost
namespace Go.Proofs.YtfafoognjodeiaaDoor
open Go.RowKit
open Nw W15
set_option linter.unusedVariables false
theorem drop_cW (s : ByteArray) (k : Nat) (h : k < s.size) : s.data.toList.drop k = s[k]'h :: s.data.toList.drop (k + 1) := List.drop_eq_getElem_cons (show k < s.data.toList.length from h)
theorem drop_nW (s : ByteArray) (k : Nat) (h : s.size ≤ k) : s.data.toList.drop k = [] := List.drop_eq_nil_of_le h
theorem u8_tW {c d : UInt8} (h : c = d) : ((c.toNat : Int) == (d.toNat : Int)) = true := by rw [h]; exact beq_self_eq_true _
theorem u8_fW {c d : UInt8} (h : ¬ c = d) : ((c.toNat : Int) == (d.toNat : Int)) = false := beq_eq_false_iff_ne.2 fun e => h (UInt8.toNat_inj.1 (by omega))
theorem u8_ntW {c d : UInt8} (h : c = d) : ((c.toNat : Int) != (d.toNat : Int)) = false := by rw [h]; exact bne_self_eq_false _
theorem u8_nfW {c d : UInt8} (h : ¬ c = d) : ((c.toNat : Int) != (d.toNat : Int)) = true := bne_iff_ne.2 fun e => h (UInt8.toNat_inj.1 (by omega))
theorem one_atW (s : ByteArray) (k : Nat) (h : k < s.size) : (s.extract k (k + 1)).data.toList = [s[k]'h] := by
  have h1 : (s.extract k (k + 1)).data.toList = (s.data.toList.drop k).take 1 := by
    rw [ByteArray.data_extract, Array.toList_extract, List.extract_eq_take_drop]
    rw [show k + 1 - k = 1 by omega]
  rw [h1, drop_cW s k h]; rfl
theorem ext_takeW (s : ByteArray) (a e : Nat) : (s.extract a e).data.toList = (s.data.toList.drop a).take (e - a) := by
  rw [ByteArray.data_extract, Array.toList_extract, List.extract_eq_take_drop]
theorem bytes_extW {a b : ByteArray} (h : a.data.toList = b.data.toList) : a = b := by
  cases a; cases b; simp at h; simp [h]
theorem bl_any (c : UInt8) (w : World) : Calls Tryd.prog 17 #[.int .u8 c.toNat] w fun e w' => e = .returned (.bool (isBl c)) ∧ w' = w := by
  unfold isBl
  by_cases h1 : c = 32
  · have t1 : ((c.toNat : Int) == 32) = true := u8_tW (d := 32) h1
    go_enter Tryd.func17, Tryd.ntmps17
    go_wp2
    go_ret
    exact ⟨by simp [h1], rfl⟩
  · have f1 : ((c.toNat : Int) == 32) = false := u8_fW (d := 32) h1
    by_cases h2 : c = 9
    · have t2 : ((c.toNat : Int) == 9) = true := u8_tW (d := 9) h2
      go_enter Tryd.func17, Tryd.ntmps17
      go_wp2
      go_ret
      exact ⟨by simp [h2], rfl⟩
    · have f2 : ((c.toNat : Int) == 9) = false := u8_fW (d := 9) h2
      go_enter Tryd.func17, Tryd.ntmps17
      go_wp2
      go_ret
      exact ⟨by simp [h1, h2], rfl⟩
theorem pc_39 (r : L8) : pcL (39 :: r) = sqL r := by cases r <;> rfl
theorem pc_34 (r : L8) : pcL (34 :: r) = dqL r := by cases r <;> rfl
theorem pc_92 (d : UInt8) (r : L8) : pcL (92 :: d :: r) = some ([d], r) := rfl
theorem dq_34 (r : L8) : dqL (34 :: r) = some ([], r) := by cases r <;> rfl
theorem dq_92 (d : UInt8) (r : L8) : dqL (92 :: d :: r) = (dqL r).map fun x => ((if d = 34 ∨ d = 92 then [d] else [92, d]) ++ x.1, x.2) := rfl
theorem dq_c {c : UInt8} (h1 : c ≠ 34) (h2 : c ≠ 92) (r : L8) : dqL (c :: r) = (dqL r).map fun x => (c :: x.1, x.2) := by
  cases r with
  | nil => simp [dqL, h1]
  | cons d r => rw [dqL, if_neg h1, if_neg h2]
/-- What piece answers. -/
def PcO (s : ByteArray) (R : Option (L8 × L8)) (e : Ending) : Prop := match R with
  | none => e = .returned (.tuple #[.string ⟨#[]⟩, .int .i64 (-1)])
  | some (p, r) => ∃ (q : ByteArray) (k' : Nat), q.data.toList = p ∧ k' ≤ s.size ∧ s.data.toList.drop k' = r ∧ e = .returned (.tuple #[.string q, .int .i64 (k' : Int)])
set_option maxRecDepth 100000 in
set_option maxHeartbeats 16000000 in
theorem piece_any (s : ByteArray) (k : Nat) (w : World) (hs : s.size ≤ 1000000) (hk : k < s.size) :
    Calls Tryd.prog 18 #[.string s, .int .i64 (k : Int)] w fun e w' => PcO s (pcL (s.data.toList.drop k)) e ∧ w' = w := by
  have hst := drop_cW s k hk
  obtain ⟨c, hc⟩ : ∃ c, s[k]'hk = c := ⟨_, rfl⟩
  rw [hc] at hst
  have hlz : (k : Int) < (s.size : Int) := by omega
  have kw : IntKind.i64.wrap ((k : Int) + 1) = (k : Int) + 1 := IntWalk.i64_in _ (by omega)
  have kw2 : IntKind.i64.wrap ((k : Int) + 2) = (k : Int) + 2 := IntWalk.i64_in _ (by omega)
  have e1 : (0 : Int) ≤ (k : Int) + 1 := by omega
  have e2 : ((k : Int) + 1).toNat = k + 1 := by omega
  have e3 : (0 : Int) ≤ (k : Int) + 2 := by omega
  have e4 : ((k : Int) + 2).toNat = k + 2 := by omega
  have e5 : (k : Int) + 1 ≤ (k : Int) + 2 := by omega
  have e6 : (k : Int) ≤ (k : Int) + 1 := by omega
  have e7 : (k : Int) + 1 ≤ (s.size : Int) := by omega
  by_cases h92 : c = 92
  · have t92 : ((c.toNat : Int) == 92) = true := u8_tW (d := 92) h92
    subst h92
    by_cases h2 : k + 1 < s.size
    · have hn2 : ((k : Int) + 1 == (s.size : Int)) = false := beq_eq_false_iff_ne.2 (by omega)
      have hle : (k : Int) + 2 ≤ (s.size : Int) := by omega
      have hst2 := drop_cW s (k + 1) h2
      rw [hst2] at hst
      have HR : Hid (pcL (s.data.toList.drop k) = some ([s[k + 1]'h2], s.data.toList.drop (k + 2))) := Lib.hid (by rw [hst]; rfl)
      clear hst hst2
      go_enter Tryd.func18, Tryd.ntmps18
      go_wp2
      go_ret2
      rw [HR.out]
      exact ⟨⟨_, k + 2, one_atW s (k + 1) h2, by omega, rfl, by first | rfl | (congr 2)⟩, rfl⟩
    · have hn2 : ((k : Int) + 1 == (s.size : Int)) = true := beq_iff_eq.2 (by omega)
      have HR : Hid (pcL (s.data.toList.drop k) = none) := Lib.hid (by rw [hst, drop_nW s (k + 1) (by omega)]; rfl)
      clear hst
      go_enter Tryd.func18, Tryd.ntmps18
      go_wp2
      go_ret2
      rw [HR.out]
      exact ⟨rfl, rfl⟩
  have f92 : ((c.toNat : Int) == 92) = false := u8_fW (d := 92) h92
  by_cases h39 : c = 39
  · have t39 : ((c.toNat : Int) == 39) = true := u8_tW (d := 39) h39
    have HR : Hid (pcL (s.data.toList.drop k) = (sqL (s.data.toList.drop (k + 1))).map fun x => ((s.data.toList.drop (k + 1)).take (k + 1 - (k + 1)) ++ x.1, x.2)) := Lib.hid (by
      rw [hst, h39, pc_39, Nat.sub_self, List.take_zero]
      cases sqL (s.data.toList.drop (k + 1)) <;> rfl)
    obtain ⟨R, hRR⟩ : ∃ R, pcL (s.data.toList.drop k) = R := ⟨_, rfl⟩
    rw [hRR] at HR ⊢
    clear hst hRR h39 h92
    go_enter Tryd.func18, Tryd.ntmps18
    go_wp2
    go_loopw [7] (fun i wr => ∃ j : Nat, k + 1 ≤ j ∧ j ≤ s.size ∧ i = .int .i64 (j : Int) ∧ wr = w ∧ Hid (R = (sqL (s.data.toList.drop j)).map fun x => ((s.data.toList.drop (k + 1)).take (j - (k + 1)) ++ x.1, x.2))) (fun i _ => s.size - (intOf i).toNat)
    case atStart => exact ⟨k + 1, Nat.le_refl _, hk, by go_num, rfl, HR⟩
    case round =>
      clear HR
      obtain ⟨j, hj1, hj, rfl, rfl, HR⟩ := hrel
      by_cases hlt : j < s.size
      · have hjz : (j : Int) < (s.size : Int) := by omega
        have hdj := drop_cW s j hlt
        obtain ⟨d, hd⟩ : ∃ d, s[j]'hlt = d := ⟨_, rfl⟩
        have hd9 := hd
        rw [hd] at hdj
        have jw : IntKind.i64.wrap ((j : Int) + 1) = (j : Int) + 1 := IntWalk.i64_in _ (by omega)
        have j2 : (k : Int) + 1 ≤ (j : Int) := by omega
        have j3 : (j : Int) ≤ (s.size : Int) := by omega
        by_cases hq : d = 39
        · have tq : ((d.toNat : Int) == 39) = true := u8_tW (d := 39) hq
          have HE : Hid (R = some ((s.data.toList.drop (k + 1)).take (j - (k + 1)), s.data.toList.drop (j + 1))) := Lib.hid (by rw [HR.out, hdj, hq, sqL, if_pos rfl]; simp)
          clear hdj
          go_wp2
          go_ret2
          rw [HE.out]
          exact ⟨⟨_, j + 1, ext_takeW s (k + 1) j, by omega, rfl, by first | rfl | (congr 2)⟩, rfl⟩
        · have fq : ((d.toNat : Int) == 39) = false := u8_fW (d := 39) hq
          have HN : Hid (R = (sqL (s.data.toList.drop (j + 1))).map fun x => ((s.data.toList.drop (k + 1)).take (j + 1 - (k + 1)) ++ x.1, x.2)) := Lib.hid (by
            have ht : (s.data.toList.drop (k + 1)).take (j + 1 - (k + 1)) = (s.data.toList.drop (k + 1)).take (j - (k + 1)) ++ [d] := by
              have hl : j - (k + 1) < (s.data.toList.drop (k + 1)).length := by rw [List.length_drop]; show _ < s.size - (k + 1); omega
              rw [show j + 1 - (k + 1) = j - (k + 1) + 1 by omega, List.take_succ_eq_append_getElem hl]
              congr 1
              rw [List.getElem_drop]
              simp only [show k + 1 + (j - (k + 1)) = j by omega]
              rw [← hd9]; rfl
            rw [HR.out, hdj, sqL, if_neg hq, ht]
            cases sqL (s.data.toList.drop (j + 1)) <;> simp)
          clear hdj
          go_wp2
          go_roundw
          case rel => exact ⟨j + 1, by omega, by omega, by go_num, trivial, HN⟩
          case measure => simp [intOf]; omega
      · obtain rfl : j = s.size := by omega
        have HE : Hid (R = none) := Lib.hid (by rw [HR.out, drop_nW s s.size (Nat.le_refl _), sqL]; rfl)
        go_wp2
        go_ret2
        rw [HE.out]
        exact ⟨rfl, rfl⟩
  have f39 : ((c.toNat : Int) == 39) = false := u8_fW (d := 39) h39
  by_cases h34 : c = 34
  · have t34 : ((c.toNat : Int) != 34) = false := u8_ntW (d := 34) h34
    have HR : Hid (pcL (s.data.toList.drop k) = (dqL (s.data.toList.drop (k + 1))).map fun x => ((⟨#[]⟩ : ByteArray).data.toList ++ x.1, x.2)) := Lib.hid (by
      rw [hst, h34, pc_34]
      cases dqL (s.data.toList.drop (k + 1)) <;> rfl)
    obtain ⟨R, hRR⟩ : ∃ R, pcL (s.data.toList.drop k) = R := ⟨_, rfl⟩
    rw [hRR] at HR ⊢
    clear hst hRR h39 h92 h34
    go_enter Tryd.func18, Tryd.ntmps18
    go_wp2
    go_loopw [1, 8] (fun i o wr => ∃ (j : Nat) (O : ByteArray), j ≤ s.size ∧ O.size ≤ 2 * j ∧ i = .int .i64 (j : Int) ∧ o = .string O ∧ wr = w ∧ Hid (R = (dqL (s.data.toList.drop j)).map fun x => (O.data.toList ++ x.1, x.2))) (fun i _ _ => s.size - (intOf i).toNat)
    case atStart => exact ⟨k + 1, ⟨#[]⟩, hk, Nat.zero_le _, by go_num, rfl, rfl, HR⟩
    case round =>
      clear HR
      obtain ⟨j, O, hj, hO, rfl, rfl, rfl, HR⟩ := hrel
      by_cases hlt : j < s.size
      · have hjz : (j : Int) < (s.size : Int) := by omega
        have hdj := drop_cW s j hlt
        obtain ⟨d, hd⟩ : ∃ d, s[j]'hlt = d := ⟨_, rfl⟩
        have HD9 := Lib.hid hd
        rw [hd] at hdj
        have jw : IntKind.i64.wrap ((j : Int) + 1) = (j : Int) + 1 := IntWalk.i64_in _ (by omega)
        have jw2 : IntKind.i64.wrap ((j : Int) + 1 + 1) = (j : Int) + 1 + 1 := IntWalk.i64_in _ (by omega)
        have j1 : (0 : Int) ≤ (j : Int) + 1 := by omega
        have j2 : ((j : Int) + 1).toNat = j + 1 := by omega
        have j3 : (j : Int) ≤ (j : Int) + 1 := by omega
        have j4 : (j : Int) + 1 ≤ (s.size : Int) := by omega
        have HONE := Lib.hid (one_atW s j hlt)
        by_cases hq : d = 34
        · have tq : ((d.toNat : Int) == 34) = true := u8_tW (d := 34) hq
          have HE : Hid (R = some (O.data.toList, s.data.toList.drop (j + 1))) := Lib.hid (by rw [HR.out, hdj, hq, dq_34]; simp)
          clear hdj
          go_wp2
          go_ret2
          rw [HE.out]
          exact ⟨⟨O, j + 1, rfl, by omega, rfl, by first | rfl | (congr 2)⟩, rfl⟩
        have fq : ((d.toNat : Int) == 34) = false := u8_fW (d := 34) hq
        by_cases hb : d = 92
        · have tb : ((d.toNat : Int) == 92) = true := u8_tW (d := 92) hb
          by_cases h2 : j + 1 < s.size
          · have hn2 : ((j : Int) + 1 == (s.size : Int)) = false := beq_eq_false_iff_ne.2 (by omega)
            have j5 : (j : Int) + 1 < (s.size : Int) := by omega
            have j6 : (j : Int) + 1 ≤ (j : Int) + 1 + 1 := by omega
            have j7 : (j : Int) + 1 + 1 ≤ (s.size : Int) := by omega
            have j8 : (0 : Int) ≤ (j : Int) + 1 + 1 := by omega
            have j9 : ((j : Int) + 1 + 1).toNat = j + 2 := by omega
            have hdj2 := drop_cW s (j + 1) h2
            obtain ⟨x, hx⟩ : ∃ x, s[j + 1]'h2 = x := ⟨_, rfl⟩
            have HX9 := Lib.hid hx
            have HONE2 := Lib.hid (one_atW s (j + 1) h2)
            rw [hx] at hdj2
            rw [hdj2] at hdj
            have hz1 : (s.extract j (j + 1)).size = 1 := by rw [ByteArray.size_extract]; omega
            have hz2 : (s.extract (j + 1) (j + 2)).size = 1 := by rw [ByteArray.size_extract]; omega
            have k1 : (9223372036854775807 < O.size + (s.extract j (j + 1)).size) = False := eq_false (by omega)
            have k2 : (9223372036854775807 < O.size + (s.extract (j + 1) (j + 2)).size) = False := eq_false (by omega)
            have k3 : (9223372036854775807 < O.size + 1 + 1) = False := eq_false (by omega)
            by_cases hx2 : x = 34 ∨ x = 92
            · have HN : Hid (R = (dqL (s.data.toList.drop (j + 2))).map fun y => ((O ++ s.extract (j + 1) (j + 2)).data.toList ++ y.1, y.2)) := Lib.hid (by
                rw [HR.out, hdj, hb, dq_92, if_pos hx2, ByteArray.data_append, Array.toList_append, HONE2.out, HX9.out]
                cases dqL (s.data.toList.drop (j + 2)) <;> simp)
              have hsz2 : (O ++ s.extract (j + 1) (j + 2)).size ≤ 2 * (j + 2) := by rw [ByteArray.size_append]; omega
              clear hdj hdj2
              rcases hx2 with hx3 | hx3
              · have x1 : ((x.toNat : Int) != 34) = false := u8_ntW (d := 34) hx3
                go_wp2
                go_roundw
                case rel => exact ⟨j + 2, O ++ s.extract (j + 1) (j + 2), by omega, hsz2, by go_num, rfl, trivial, HN⟩
                case measure => simp [intOf]; omega
              · have x1 : ((x.toNat : Int) != 34) = true := u8_nfW (d := 34) (by rw [hx3]; decide)
                have x2 : ((x.toNat : Int) != 92) = false := u8_ntW (d := 92) hx3
                go_wp2
                go_roundw
                case rel => exact ⟨j + 2, O ++ s.extract (j + 1) (j + 2), by omega, hsz2, by go_num, rfl, trivial, HN⟩
                case measure => simp [intOf]; omega
            · have HN : Hid (R = (dqL (s.data.toList.drop (j + 2))).map fun y => ((O ++ s.extract j (j + 1) ++ s.extract (j + 1) (j + 2)).data.toList ++ y.1, y.2)) := Lib.hid (by
                rw [HR.out, hdj, hb, dq_92, if_neg hx2, ByteArray.data_append, Array.toList_append, ByteArray.data_append, Array.toList_append, HONE.out, HONE2.out, HX9.out, HD9.out, hb]
                cases dqL (s.data.toList.drop (j + 2)) <;> simp)
              have hsz2 : (O ++ s.extract j (j + 1) ++ s.extract (j + 1) (j + 2)).size ≤ 2 * (j + 2) := by rw [ByteArray.size_append, ByteArray.size_append]; omega
              have x1 : ((x.toNat : Int) != 34) = true := u8_nfW (d := 34) fun e => hx2 (.inl e)
              have x2 : ((x.toNat : Int) != 92) = true := u8_nfW (d := 92) fun e => hx2 (.inr e)
              clear hdj hdj2
              go_wp2
              go_roundw
              case rel => exact ⟨j + 2, O ++ s.extract j (j + 1) ++ s.extract (j + 1) (j + 2), by omega, hsz2, by go_num, rfl, trivial, HN⟩
              case measure => simp [intOf]; omega
          · have hn2 : ((j : Int) + 1 == (s.size : Int)) = true := beq_iff_eq.2 (by omega)
            have HE : Hid (R = none) := Lib.hid (by rw [HR.out, hdj, hb, drop_nW s (j + 1) (by omega)]; rfl)
            clear hdj
            go_wp2
            go_ret2
            rw [HE.out]
            exact ⟨rfl, rfl⟩
        · have fb : ((d.toNat : Int) == 92) = false := u8_fW (d := 92) hb
          have hz1 : (s.extract j (j + 1)).size = 1 := by rw [ByteArray.size_extract]; omega
          have k1 : (9223372036854775807 < O.size + (s.extract j (j + 1)).size) = False := eq_false (by omega)
          have HN : Hid (R = (dqL (s.data.toList.drop (j + 1))).map fun y => ((O ++ s.extract j (j + 1)).data.toList ++ y.1, y.2)) := Lib.hid (by
            rw [HR.out, hdj, dq_c hq hb, ByteArray.data_append, Array.toList_append, HONE.out, HD9.out]
            cases dqL (s.data.toList.drop (j + 1)) <;> simp)
          have hsz2 : (O ++ s.extract j (j + 1)).size ≤ 2 * (j + 1) := by rw [ByteArray.size_append]; omega
          clear hdj
          go_wp2
          go_roundw
          case rel => exact ⟨j + 1, O ++ s.extract j (j + 1), by omega, hsz2, by go_num, rfl, trivial, HN⟩
          case measure => simp [intOf]; omega
      · obtain rfl : j = s.size := by omega
        have HE : Hid (R = none) := Lib.hid (by rw [HR.out, drop_nW s s.size (Nat.le_refl _), dqL]; rfl)
        go_wp2
        go_ret2
        rw [HE.out]
        exact ⟨rfl, rfl⟩
  · have f34 : ((c.toNat : Int) != 34) = true := u8_nfW (d := 34) h34
    have HR : Hid (pcL (s.data.toList.drop k) = some ([s[k]'hk], s.data.toList.drop (k + 1))) := Lib.hid (by rw [hst, pc_plain h92 h39 h34, hc])
    clear hst
    go_enter Tryd.func18, Tryd.ntmps18
    go_wp2
    go_ret2
    rw [HR.out]
    exact ⟨⟨_, k + 1, one_atW s k hk, by omega, rfl, by first | rfl | (congr 2)⟩, rfl⟩
end Go.Proofs.YtfafoognjodeiaaDoor
