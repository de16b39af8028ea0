/- The reference's Join (gen_refwrd4.py wrote it). -/
import Derived.Test.YtfafoognjodeiaaDoorRefWrd3
import Derived.Deep.Cut
namespace Go.Proofs.YtfafoognjodeiaaDoor
open Go.RowKit Go.Sort
open Nw W15
set_option linter.unusedVariables false
theorem ba_dataW (l : L8) : (ba l).data.toList = l := by simp [ba]
theorem ba_sizeW (l : L8) : (ba l).size = l.length := by simp [ba, ByteArray.size]
theorem escL_snoc {x : L8} {k : Nat} (h : k < x.length) : escL (x.take (k + 1)) = escL (x.take k) ++ escC (x[k]'h) := by
  rw [List.take_succ_eq_append_getElem h]
  unfold escL
  rw [List.flatMap_append]; simp
theorem costs_take (l : List L8) (i : Nat) : costs (l.take i) ≤ costs l := by
  conv => rhs; rw [← List.take_append_drop i l, costs_app]
  omega
theorem costs_at {l : List L8} {i : Nat} (h : i < l.length) : costs (l.take i) + cost (l[i]'h) ≤ costs l := by
  have h1 := costs_take l (i + 1)
  rw [List.take_succ_eq_append_getElem h, costs_app] at h1
  have : costs [l[i]'h] = cost (l[i]'h) := by simp [costs]
  omega
theorem escL_take_len (x : L8) (k : Nat) : (escL (x.take k)).length ≤ 4 * x.length := by
  have := escL_len (x.take k)
  have h2 : (x.take k).length ≤ x.length := by rw [List.length_take]; omega
  omega
set_option maxRecDepth 100000 in
set_option maxHeartbeats 16000000 in
theorem RJoin_any (v : Value) (l : List L8) (w : World) (h : Rd w v l) (hbig : costs l ≤ 1000000) :
    Calls Tryd.prog 14 #[v] w fun e w' => e = .returned (.string (ba (jnL l))) ∧ w' = w := by
  obtain ⟨a, cap, rfl, h1, h2, h3⟩ := h
  unfold maxLen at h2
  obtain ⟨n, hn⟩ : ∃ n, n = l.length := ⟨_, rfl⟩
  have HN : Hid (n = l.length) := Lib.hid hn
  rw [← hn] at h1 ⊢
  have H3 := Lib.hid h3
  have HBIG := Lib.hid hbig
  have hln : l.length ≤ costs l := by
    clear h3 H3 HN HBIG hbig h1 hn
    induction l with
    | nil => exact Nat.le_refl _
    | cons x l ih =>
      have : costs (x :: l) = cost x + costs l := by simp [costs]
      have : 1 ≤ cost x := by unfold cost; omega
      rw [List.length_cons]; omega
  have hn1 : n ≤ 1000000 := by omega
  clear h3 hn hbig hln
  go_enter Tryd.func14, Tryd.ntmps14
  go_wp2
  go_loopw [3, 4, 5] (fun so si sk wr => ∃ (i : Nat) (O : ByteArray), i ≤ n ∧ si = .int .i64 (i : Int) ∧ so = .string O ∧ wr = w ∧ Hid (O.data.toList = jnL (l.take i))) (fun _ si _ _ => n - (intOf si).toNat)
  case atStart => exact ⟨0, ⟨#[]⟩, Nat.zero_le _, rfl, rfl, rfl, Lib.hid rfl⟩
  case round =>
    obtain ⟨i, O, hi, rfl, rfl, rfl, HO⟩ := hrel
    obtain ⟨w0, hw0⟩ : ∃ w0, w0 = wr := ⟨_, rfl⟩
    subst hw0
    by_cases hlt : i < n
    · have hl : Hid (i < l.length) := Lib.hid (by have := HN.out; omega)
      rcases H3.out with ⟨e, _⟩ | ⟨b, o, rfl, h4, h5⟩
      · exact absurd hl.out (by rw [e]; exact Nat.not_lt_zero _)
      have hc := h5 i hl.out
      clear h5
      have hiz : (i : Int) < (n : Int) := by omega
      have hic : (i : Int) < (cap : Int) := by omega
      have iw : IntKind.i64.wrap ((i : Int) + 1) = (i : Int) + 1 := IntWalk.i64_in _ (by omega)
      have HST := Lib.hid (jnL_snoc hl.out)
      have hcost := costs_at hl.out
      have hOs : O.size ≤ costs (l.take i) := by
        have := jnL_len (l.take i)
        rw [← HO.out] at this; exact this
      obtain ⟨x, hx⟩ : ∃ x, l[i]'hl.out = x := ⟨_, rfl⟩
      rw [hx] at hc HST hcost
      obtain ⟨X, hX⟩ : ∃ X, ba x = X := ⟨_, rfl⟩
      have hXd : Hid (X.data.toList = x) := Lib.hid (by rw [← hX, ba_dataW])
      have hXs : X.size = x.length := by rw [← hX, ba_sizeW]
      rw [hX] at hc
      have hcx : cost x = 4 * X.size + 3 := by unfold cost; rw [hXs]
      have hb9 := HBIG.out
      have hOX : O.size + (4 * X.size + 3) ≤ 1000000 := by omega
      have HBR := Lib.hid (fun w1 => RBare_any X w1 (by omega))
      rw [hXd.out] at HBR
      have HQL : Hid (bareB x = true → qtL x = x) := Lib.hid fun hb => by unfold qtL; rw [if_pos hb]
      have HQN : Hid (bareB x = false → qtL x = 39 :: (escL x ++ [39])) := Lib.hid fun hb => by unfold qtL; rw [if_neg (by rw [hb]; exact Bool.false_ne_true)]
      have HXS := Lib.hid hXs
      clear hX hx hcost hOs hcx hb9 hXs
      by_cases h0 : i = 0
      · have h0z : ¬ (0 : Int) < (i : Int) := by omega
        obtain ⟨P, hP⟩ : ∃ P, O = P := ⟨_, rfl⟩
        have HP : Hid (P.data.toList = jnL (l.take i) ++ (if i = 0 then [] else [32])) := Lib.hid (by rw [← hP, HO.out, if_pos h0, List.append_nil])
        have hPs : P.size + 4 * X.size + 3 ≤ 1000001 := by rw [← hP]; omega
        clear HO h0
        go_upto_region 7 with fail
        try rw [hP]
        clear hP
        cases hb : bareB x with
        | true =>
          rw [hb] at HBR
          have HN2 : Hid ((P ++ X).data.toList = jnL (l.take (i + 1))) := Lib.hid (by rw [ByteArray.data_append, Array.toList_append, HP.out, HST.out, hXd.out, HQL.out hb])
          have kp : (9223372036854775807 < P.size + X.size) = False := eq_false (by omega)
          clear hb
          go_wp2_with (go_at_call 11; refine (HBR.out _).mono ?_; rintro e w2 ⟨rfl, rfl⟩)
          go_roundw
          case rel => exact ⟨i + 1, P ++ X, by omega, by go_num, rfl, trivial, HN2⟩
          case measure => simp [intOf]; omega
        | false =>
          rw [hb] at HBR
          have HQ2 := Lib.hid (HQN.out hb)
          have kp : (9223372036854775807 < P.size + 1) = False := eq_false (by omega)
          clear hb
          go_wp2_with (go_at_call 11; refine (HBR.out _).mono ?_; rintro e w1 ⟨rfl, rfl⟩)
          go_loopw [3, 5] (fun so sk wr => ∃ (k : Nat) (Q : ByteArray), k ≤ X.size ∧ Q.size ≤ P.size + 1 + 4 * X.size ∧ sk = .int .i64 (k : Int) ∧ so = .string Q ∧ wr = w1 ∧ Hid (Q.data.toList = P.data.toList ++ 39 :: escL (x.take k))) (fun _ sk _ => X.size - (intOf sk).toNat)
          case atStart => exact ⟨0, P ++ ⟨#[39]⟩, Nat.zero_le _, by rw [ByteArray.size_append]; show P.size + 1 ≤ _; omega, rfl, rfl, rfl, Lib.hid (by rw [ByteArray.data_append, Array.toList_append]; rfl)⟩
          case round =>
            obtain ⟨k, Q, hk, hQs, rfl, rfl, rfl, HQ⟩ := hrel
            have hkz0 : (0 : Int) ≤ (k : Int) := by omega
            by_cases hkl : k < X.size
            · have hkz : (k : Int) < (X.size : Int) := by omega
              have kw : IntKind.i64.wrap ((k : Int) + 1) = (k : Int) + 1 := IntWalk.i64_in _ (by omega)
              have e1 : (k : Int) ≤ (k : Int) + 1 := by omega
              have e2 : (k : Int) + 1 ≤ (X.size : Int) := by omega
              have e3 : (0 : Int) ≤ (k : Int) + 1 := by omega
              have e4 : ((k : Int) + 1).toNat = k + 1 := by omega
              obtain ⟨d, hd⟩ : ∃ d, X[k]'hkl = d := ⟨_, rfl⟩
              have HONE : Hid ((X.extract k (k + 1)).data.toList = [d]) := Lib.hid (by rw [one_atW X k hkl, hd])
              have HSN : Hid (escL (x.take (k + 1)) = escL (x.take k) ++ escC d) := Lib.hid (by
                have hkx : k < x.length := by rw [← HXS.out]; exact hkl
                have := escL_snoc hkx
                have hg : x[k]'hkx = d := by
                  rw [← hd]
                  have h9 := hXd.out
                  subst h9
                  rfl
                rw [hg] at this; exact this)
              have hz1 : (X.extract k (k + 1)).size = 1 := by rw [ByteArray.size_extract]; omega
              have HLEN := Lib.hid (escL_take_len x (k + 1))
              by_cases hq : d = 39
              · have tq : ((d.toNat : Int) == 39) = true := u8_tW (d := 39) hq
                have kq1 : (9223372036854775807 < Q.size + 3) = False := eq_false (by omega)
                have kq2 : (9223372036854775807 < Q.size + 3 + (X.extract k (k + 1)).size) = False := eq_false (by omega)
                have HN3 : Hid ((Q ++ ⟨#[39, 92, 39]⟩ ++ X.extract k (k + 1)).data.toList = P.data.toList ++ 39 :: escL (x.take (k + 1))) := Lib.hid (by
                  rw [ByteArray.data_append, Array.toList_append, ByteArray.data_append, Array.toList_append, HQ.out, HONE.out, HSN.out, hq]
                  rw [show escC 39 = [39, 92, 39, 39] from rfl]
                  simp)
                have hsz : (Q ++ ⟨#[39, 92, 39]⟩ ++ X.extract k (k + 1)).size ≤ P.size + 1 + 4 * X.size := by
                  have h9 := congrArg List.length HN3.out
                  rw [List.length_append, List.length_cons] at h9
                  have h8 := HLEN.out
                  rw [← HXS.out] at h8
                  show (Q ++ ⟨#[39, 92, 39]⟩ ++ X.extract k (k + 1)).data.toList.length ≤ P.data.toList.length + 1 + 4 * X.size
                  omega
                go_wp2
                go_roundw
                case rel => exact ⟨k + 1, Q ++ ⟨#[39, 92, 39]⟩ ++ X.extract k (k + 1), by omega, hsz, by go_num, rfl, trivial, HN3⟩
                case measure => simp [intOf]; omega
              · have fq : ((d.toNat : Int) == 39) = false := u8_fW (d := 39) hq
                have kq1 : (9223372036854775807 < Q.size + (X.extract k (k + 1)).size) = False := eq_false (by omega)
                have HN3 : Hid ((Q ++ X.extract k (k + 1)).data.toList = P.data.toList ++ 39 :: escL (x.take (k + 1))) := Lib.hid (by
                  rw [ByteArray.data_append, Array.toList_append, HQ.out, HONE.out, HSN.out]
                  rw [show escC d = [d] from by unfold escC; rw [if_neg hq]]
                  simp)
                have hsz : (Q ++ X.extract k (k + 1)).size ≤ P.size + 1 + 4 * X.size := by
                  have h9 := congrArg List.length HN3.out
                  rw [List.length_append, List.length_cons] at h9
                  have h8 := HLEN.out
                  rw [← HXS.out] at h8
                  show (Q ++ X.extract k (k + 1)).data.toList.length ≤ P.data.toList.length + 1 + 4 * X.size
                  omega
                go_wp2
                go_roundw
                case rel => exact ⟨k + 1, Q ++ X.extract k (k + 1), by omega, hsz, by go_num, rfl, trivial, HN3⟩
                case measure => simp [intOf]; omega
            · obtain rfl : k = X.size := by omega
              have kq1 : (9223372036854775807 < Q.size + 1) = False := eq_false (by omega)
              have HN3 : Hid ((Q ++ ⟨#[39]⟩).data.toList = jnL (l.take (i + 1))) := Lib.hid (by
                rw [ByteArray.data_append, Array.toList_append, HQ.out, HP.out, HST.out, HQ2.out, show x.take X.size = x from List.take_of_length_le (by rw [HXS.out]; exact Nat.le_refl _)]
                simp)
              go_wp2
              go_roundw
              case rel => exact ⟨i + 1, Q ++ ⟨#[39]⟩, by omega, by go_num, rfl, trivial, HN3⟩
              case measure => simp [intOf]; omega
      · have h0z : (0 : Int) < (i : Int) := by omega
        have hk1 : (9223372036854775807 < O.size + 1) = False := eq_false (by omega)
        obtain ⟨P, hP⟩ : ∃ P, O ++ (⟨#[32]⟩ : ByteArray) = P := ⟨_, rfl⟩
        have HP : Hid (P.data.toList = jnL (l.take i) ++ (if i = 0 then [] else [32])) := Lib.hid (by rw [← hP, ByteArray.data_append, Array.toList_append, HO.out, if_neg h0])
        have hPs : P.size + 4 * X.size + 3 ≤ 1000001 := by rw [← hP, ByteArray.size_append]; have : (⟨#[32]⟩ : ByteArray).size = 1 := rfl; omega
        clear HO h0
        go_upto_region 7 with fail
        try rw [hP]
        clear hP
        cases hb : bareB x with
        | true =>
          rw [hb] at HBR
          have HN2 : Hid ((P ++ X).data.toList = jnL (l.take (i + 1))) := Lib.hid (by rw [ByteArray.data_append, Array.toList_append, HP.out, HST.out, hXd.out, HQL.out hb])
          have kp : (9223372036854775807 < P.size + X.size) = False := eq_false (by omega)
          clear hb
          go_wp2_with (go_at_call 11; refine (HBR.out _).mono ?_; rintro e w2 ⟨rfl, rfl⟩)
          go_roundw
          case rel => exact ⟨i + 1, P ++ X, by omega, by go_num, rfl, trivial, HN2⟩
          case measure => simp [intOf]; omega
        | false =>
          rw [hb] at HBR
          have HQ2 := Lib.hid (HQN.out hb)
          have kp : (9223372036854775807 < P.size + 1) = False := eq_false (by omega)
          clear hb
          go_wp2_with (go_at_call 11; refine (HBR.out _).mono ?_; rintro e w1 ⟨rfl, rfl⟩)
          go_loopw [3, 5] (fun so sk wr => ∃ (k : Nat) (Q : ByteArray), k ≤ X.size ∧ Q.size ≤ P.size + 1 + 4 * X.size ∧ sk = .int .i64 (k : Int) ∧ so = .string Q ∧ wr = w1 ∧ Hid (Q.data.toList = P.data.toList ++ 39 :: escL (x.take k))) (fun _ sk _ => X.size - (intOf sk).toNat)
          case atStart => exact ⟨0, P ++ ⟨#[39]⟩, Nat.zero_le _, by rw [ByteArray.size_append]; show P.size + 1 ≤ _; omega, rfl, rfl, rfl, Lib.hid (by rw [ByteArray.data_append, Array.toList_append]; rfl)⟩
          case round =>
            obtain ⟨k, Q, hk, hQs, rfl, rfl, rfl, HQ⟩ := hrel
            have hkz0 : (0 : Int) ≤ (k : Int) := by omega
            by_cases hkl : k < X.size
            · have hkz : (k : Int) < (X.size : Int) := by omega
              have kw : IntKind.i64.wrap ((k : Int) + 1) = (k : Int) + 1 := IntWalk.i64_in _ (by omega)
              have e1 : (k : Int) ≤ (k : Int) + 1 := by omega
              have e2 : (k : Int) + 1 ≤ (X.size : Int) := by omega
              have e3 : (0 : Int) ≤ (k : Int) + 1 := by omega
              have e4 : ((k : Int) + 1).toNat = k + 1 := by omega
              obtain ⟨d, hd⟩ : ∃ d, X[k]'hkl = d := ⟨_, rfl⟩
              have HONE : Hid ((X.extract k (k + 1)).data.toList = [d]) := Lib.hid (by rw [one_atW X k hkl, hd])
              have HSN : Hid (escL (x.take (k + 1)) = escL (x.take k) ++ escC d) := Lib.hid (by
                have hkx : k < x.length := by rw [← HXS.out]; exact hkl
                have := escL_snoc hkx
                have hg : x[k]'hkx = d := by
                  rw [← hd]
                  have h9 := hXd.out
                  subst h9
                  rfl
                rw [hg] at this; exact this)
              have hz1 : (X.extract k (k + 1)).size = 1 := by rw [ByteArray.size_extract]; omega
              have HLEN := Lib.hid (escL_take_len x (k + 1))
              by_cases hq : d = 39
              · have tq : ((d.toNat : Int) == 39) = true := u8_tW (d := 39) hq
                have kq1 : (9223372036854775807 < Q.size + 3) = False := eq_false (by omega)
                have kq2 : (9223372036854775807 < Q.size + 3 + (X.extract k (k + 1)).size) = False := eq_false (by omega)
                have HN3 : Hid ((Q ++ ⟨#[39, 92, 39]⟩ ++ X.extract k (k + 1)).data.toList = P.data.toList ++ 39 :: escL (x.take (k + 1))) := Lib.hid (by
                  rw [ByteArray.data_append, Array.toList_append, ByteArray.data_append, Array.toList_append, HQ.out, HONE.out, HSN.out, hq]
                  rw [show escC 39 = [39, 92, 39, 39] from rfl]
                  simp)
                have hsz : (Q ++ ⟨#[39, 92, 39]⟩ ++ X.extract k (k + 1)).size ≤ P.size + 1 + 4 * X.size := by
                  have h9 := congrArg List.length HN3.out
                  rw [List.length_append, List.length_cons] at h9
                  have h8 := HLEN.out
                  rw [← HXS.out] at h8
                  show (Q ++ ⟨#[39, 92, 39]⟩ ++ X.extract k (k + 1)).data.toList.length ≤ P.data.toList.length + 1 + 4 * X.size
                  omega
                go_wp2
                go_roundw
                case rel => exact ⟨k + 1, Q ++ ⟨#[39, 92, 39]⟩ ++ X.extract k (k + 1), by omega, hsz, by go_num, rfl, trivial, HN3⟩
                case measure => simp [intOf]; omega
              · have fq : ((d.toNat : Int) == 39) = false := u8_fW (d := 39) hq
                have kq1 : (9223372036854775807 < Q.size + (X.extract k (k + 1)).size) = False := eq_false (by omega)
                have HN3 : Hid ((Q ++ X.extract k (k + 1)).data.toList = P.data.toList ++ 39 :: escL (x.take (k + 1))) := Lib.hid (by
                  rw [ByteArray.data_append, Array.toList_append, HQ.out, HONE.out, HSN.out]
                  rw [show escC d = [d] from by unfold escC; rw [if_neg hq]]
                  simp)
                have hsz : (Q ++ X.extract k (k + 1)).size ≤ P.size + 1 + 4 * X.size := by
                  have h9 := congrArg List.length HN3.out
                  rw [List.length_append, List.length_cons] at h9
                  have h8 := HLEN.out
                  rw [← HXS.out] at h8
                  show (Q ++ X.extract k (k + 1)).data.toList.length ≤ P.data.toList.length + 1 + 4 * X.size
                  omega
                go_wp2
                go_roundw
                case rel => exact ⟨k + 1, Q ++ X.extract k (k + 1), by omega, hsz, by go_num, rfl, trivial, HN3⟩
                case measure => simp [intOf]; omega
            · obtain rfl : k = X.size := by omega
              have kq1 : (9223372036854775807 < Q.size + 1) = False := eq_false (by omega)
              have HN3 : Hid ((Q ++ ⟨#[39]⟩).data.toList = jnL (l.take (i + 1))) := Lib.hid (by
                rw [ByteArray.data_append, Array.toList_append, HQ.out, HP.out, HST.out, HQ2.out, show x.take X.size = x from List.take_of_length_le (by rw [HXS.out]; exact Nat.le_refl _)]
                simp)
              go_wp2
              go_roundw
              case rel => exact ⟨i + 1, Q ++ ⟨#[39]⟩, by omega, by go_num, rfl, trivial, HN3⟩
              case measure => simp [intOf]; omega
    · obtain rfl : i = n := by omega
      have HE : Hid (ba (jnL l) = O) := Lib.hid (by
        have := HO.out
        rw [List.take_of_length_le (by rw [← HN.out]; exact Nat.le_refl _)] at this
        rw [← this, ba_of])
      go_wp2
      go_ret
      exact ⟨by rw [HE.out]; rfl, rfl⟩
end Go.Proofs.YtfafoognjodeiaaDoor
