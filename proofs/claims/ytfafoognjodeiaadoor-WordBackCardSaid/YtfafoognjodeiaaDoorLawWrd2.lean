/- WordBack over the contracts of word.Split and word.Join (gen_lawwrd2.py wrote it). -/
import Derived.Test.YtfafoognjodeiaaDoorLawWrd
namespace Go.Proofs.YtfafoognjodeiaaDoor
open Go.RowKit Go.Sort
open Nw W15
set_option linter.unusedVariables false
section
variable (Pw : World → Prop) (hPw : ∀ w w', Pw w → Below w.heap.size w w' → Pw w')
variable (HSplit : ∀ (s : ByteArray) (W : World), Pw W → s.size ≤ 200000 → Calls Tryd.prog 7 #[.string s] W fun e w' => ∃ v, e = .returned (.tuple #[v, .int .i64 (errW s.data.toList)]) ∧ Rd w' v (wordsW s.data.toList) ∧ Below W.heap.size W w')
variable (HJoin : ∀ (v : Value) (l : List L8) (W : World), Pw W → Rd W v l → costs l ≤ 100000 → Calls Tryd.prog 13 #[v] W fun e w' => e = .returned (.string (ba (jnL l))) ∧ Below W.heap.size W w')
include hPw HSplit HJoin
set_option maxRecDepth 100000 in
set_option maxHeartbeats 16000000 in
theorem WordBack_walk (l : List L8) (v : Value) (s : ByteArray) (hs : s.size ≤ maxLen) (w : World) (hw : Pw w) (hl : Rd w v l) : Calls Tryd.prog 5 #[v, .string s] w fun e w' => e = .returned (.bool true) ∧ Below w.heap.size w w' := by
  have HAW := Lib.hid (fun W hW => Awake15 Pw hPw HSplit HJoin W hW)
  have HP := Lib.hid hPw
  have HW := Lib.hid hw
  have HF := Lib.hid (Few_any v l 40 w hl (by decide) (by decide))
  unfold maxLen at hs
  obtain ⟨va, vc, rfl, -⟩ := id hl
  have HL := Lib.hid hl
  obtain ⟨n, hn⟩ : ∃ n, l.length = n := ⟨_, rfl⟩
  rw [hn] at HF HL ⊢
  cases hf : fewL l 40 with
  | false =>
    rw [hf] at HF
    clear HSplit HJoin hPw hw hf hl hn
    go_enter Tryd.func5, Tryd.ntmps5
    go_wp2_with first
      | (go_at_call 12; refine HF.out.mono ?_; rintro e w1 ⟨rfl, rfl⟩)
      | (go_at_call 6; refine (HAW.out _ HW.out).mono ?_; rintro e w2 ⟨rfl, b2⟩)
    go_ret
    exact ⟨rfl, b2⟩
  | true =>
    rw [hf] at HF
    by_cases h2 : (2000 : Int) < (s.size : Int)
    · clear HSplit HJoin hPw hw hf hl hn
      go_enter Tryd.func5, Tryd.ntmps5
      go_wp2_with first
        | (go_at_call 12; refine HF.out.mono ?_; rintro e w1 ⟨rfl, rfl⟩)
        | (go_at_call 6; refine (HAW.out _ HW.out).mono ?_; rintro e w2 ⟨rfl, b2⟩)
      go_ret
      exact ⟨rfl, b2⟩
    · have hc := few_costs hf
      have HJ0 := HJoin _ l w hw hl hc
      obtain ⟨q, hq⟩ : ∃ q, ba (jnL l) = q := ⟨_, rfl⟩
      rw [hq, hn] at HJ0
      have HJ1 := Lib.hid HJ0
      have hql : q.data.toList = jnL l := by rw [← hq, ba_dataW]
      have hqs : q.size ≤ 200000 := by
        have h1 := jnL_len l
        rw [← hql] at h1
        have h3 : q.data.toList.length = q.size := rfl
        omega
      have HSQ := Lib.hid (fun W hW => HSplit q W hW hqs)
      rw [hql, (join_words l).1, (join_words l).2, hn] at HSQ
      have HSS := Lib.hid (fun W hW => HSplit s W hW (by omega))
      have HSM : Hid (∀ (L : List L8) (v u : Value) (W : World), Rd W v L → Rd W u L → Calls Tryd.prog 9 #[v, u] W fun e w' => e = .returned (.bool true) ∧ Below W.heap.size W w') := Lib.hid (fun L v u W h k => by
        have := RSame_any v u _ _ W h k
        rw [decide_eq_true rfl] at this
        exact this)
      have HX : Hid (errW s.data.toList = 0 → ∃ q2 : ByteArray, q2.size ≤ 100000 ∧ (∀ (u : Value) (W : World), Pw W → Rd W u (wordsW s.data.toList) → Calls Tryd.prog 13 #[u] W fun e w' => e = .returned (.string q2) ∧ Below W.heap.size W w') ∧
          ∀ W, Pw W → Calls Tryd.prog 7 #[.string ((⟨#[9, 32]⟩ : ByteArray) ++ q2 ++ (⟨#[32]⟩ : ByteArray))] W fun e w' => ∃ v, e = .returned (.tuple #[v, .int .i64 0]) ∧ Rd w' v (wordsW s.data.toList) ∧ Below W.heap.size W w') := Lib.hid (fun hE => by
        obtain ⟨hT, hL⟩ := ok_words hE
        have hcs := T_cost hT
        have hsl : s.data.toList.length = s.size := rfl
        have hjl := jnL_len (wordsW s.data.toList)
        have hz : (ba (jnL (wordsW s.data.toList))).size ≤ 100000 := by rw [ba_sizeW]; omega
        refine ⟨ba (jnL (wordsW s.data.toList)), hz, fun u W hW hu => HJoin u _ W hW hu (by omega), fun W hW => ?_⟩
        have h9 := HSplit ((⟨#[9, 32]⟩ : ByteArray) ++ ba (jnL (wordsW s.data.toList)) ++ (⟨#[32]⟩ : ByteArray)) W hW (by
          rw [ByteArray.size_append, ByteArray.size_append]
          have e1 : (⟨#[9, 32]⟩ : ByteArray).size = 2 := rfl
          have e2 : (⟨#[32]⟩ : ByteArray).size = 1 := rfl
          omega)
        have hd : ((⟨#[9, 32]⟩ : ByteArray) ++ ba (jnL (wordsW s.data.toList)) ++ (⟨#[32]⟩ : ByteArray)).data.toList = 9 :: 32 :: (jnL (wordsW s.data.toList) ++ [32]) := by
          rw [ByteArray.data_append, Array.toList_append, ByteArray.data_append, Array.toList_append, ba_dataW]; rfl
        rw [hd, (again_words hL).1, (again_words hL).2] at h9
        exact h9)
      have HBE : Hid (errW s.data.toList ≠ 0 → wordsW s.data.toList = []) := Lib.hid bare_err
      generalize wordsW s.data.toList = L at *
      generalize errW s.data.toList = E at *
      have HNL := Lib.hid hn
      clear HSplit HJoin hPw hw hf hl hc HJ0 hq hql hqs
      by_cases hn32 : 32 < n
      · have hnz : (32 : Int) < (n : Int) := by omega
        have hnd : decide ((n : Int) ≤ 32) = false := decide_eq_false (by omega)
        have hnn : ¬ (n : Int) ≤ 32 := by omega
        rw [if_pos hn32, if_pos hn32] at HSQ
        clear hn
        by_cases hE : E = 0
        · subst hE
          obtain ⟨q2, hq2, hj2, hs2⟩ := HX.out rfl
          have HJ2 := Lib.hid hj2
          have HS2 := Lib.hid hs2
          have k1 : (9223372036854775807 < 2 + q2.size) = False := eq_false (by omega)
          have k2 : (9223372036854775807 < 2 + q2.size + 1) = False := eq_false (by omega)
          have e1 : (⟨#[9, 32]⟩ : ByteArray).size = 2 := rfl
          have e2 : (⟨#[32]⟩ : ByteArray).size = 1 := rfl
          clear HX HBE hj2 hs2
          go_enter Tryd.func5, Tryd.ntmps5
          go_wp2_with first
            | (go_at_call 12; refine HF.out.mono ?_; rintro e w1 ⟨rfl, rfl⟩)
            | (go_at_call 13; (with_reducible refine HJ1.out.mono ?_); rintro e w2 ⟨rfl, b2⟩; have HB2 := Lib.hid b2; have HL2 := Lib.hid (HL.out.below b2); have HW2 := Lib.hid (HP.out _ _ HW.out b2); clear b2)
            | (go_at_call 7; (with_reducible refine (HSQ.out _ HW2.out).mono ?_); rintro e w3 ⟨v3, rfl, hr3, b3⟩; obtain ⟨vd, ve, rfl, -⟩ := id hr3; have HB3 := Lib.hid (HB2.out.trans (b3.mono HB2.out.size)); have HL3 := Lib.hid (HL2.out.below b3); have HR3 := Lib.hid hr3; have HW3 := Lib.hid (HP.out _ _ HW2.out b3); clear hr3 b3)
            | (go_at_call 7; (with_reducible refine (HSS.out _ HW3.out).mono ?_); rintro e w5 ⟨v5, rfl, hr5, b5⟩; obtain ⟨vf, vg, rfl, -⟩ := id hr5; have HB5 := Lib.hid (HB3.out.trans (b5.mono HB3.out.size)); have HR5 := Lib.hid hr5; have HW5 := Lib.hid (HP.out _ _ HW3.out b5); clear hr5 b5)
            | (go_at_call 13; (with_reducible refine (HJ2.out _ _ HW5.out HR5.out).mono ?_); rintro e w6 ⟨rfl, b6⟩; have HB6 := Lib.hid (HB5.out.trans (b6.mono HB5.out.size)); have HR6 := Lib.hid (HR5.out.below b6); have HW6 := Lib.hid (HP.out _ _ HW5.out b6); clear b6)
            | (go_at_call 7; (with_reducible refine (HS2.out _ HW6.out).mono ?_); rintro e w7 ⟨v7, rfl, hr7, b7⟩; obtain ⟨vh, vi, rfl, -⟩ := id hr7; have HB7 := Lib.hid (HB6.out.trans (b7.mono HB6.out.size)); have HR7 := Lib.hid hr7; have HR67 := Lib.hid (HR6.out.below b7); have HW7 := Lib.hid (HP.out _ _ HW6.out b7); clear hr7 b7)
            | (go_at_call 9; (with_reducible refine (HSM.out _ _ _ _ HR67.out HR7.out).mono ?_); rintro e w8 ⟨rfl, b8⟩; have HB8 := Lib.hid (HB7.out.trans (b8.mono HB7.out.size)); have HW8 := Lib.hid (HP.out _ _ HW7.out b8); clear b8)
            | (go_at_call 6; refine (HAW.out _ HW8.out).mono ?_; rintro e w9 ⟨rfl, b9⟩; have HB9 := Lib.hid (HB8.out.trans (b9.mono HB8.out.size)); clear b9)
          go_ret
          exact ⟨rfl, HB9.out⟩
        · obtain rfl := HBE.out hE
          have hE1 : (E != 0) = true := bne_iff_ne.2 hE
          clear HX HBE hE
          go_enter Tryd.func5, Tryd.ntmps5
          go_wp2_with first
            | (go_at_call 12; refine HF.out.mono ?_; rintro e w1 ⟨rfl, rfl⟩)
            | (go_at_call 13; (with_reducible refine HJ1.out.mono ?_); rintro e w2 ⟨rfl, b2⟩; have HB2 := Lib.hid b2; have HL2 := Lib.hid (HL.out.below b2); have HW2 := Lib.hid (HP.out _ _ HW.out b2); clear b2)
            | (go_at_call 7; (with_reducible refine (HSQ.out _ HW2.out).mono ?_); rintro e w3 ⟨v3, rfl, hr3, b3⟩; obtain ⟨vd, ve, rfl, -⟩ := id hr3; have HB3 := Lib.hid (HB2.out.trans (b3.mono HB2.out.size)); have HL3 := Lib.hid (HL2.out.below b3); have HR3 := Lib.hid hr3; have HW3 := Lib.hid (HP.out _ _ HW2.out b3); clear hr3 b3)
            | (go_at_call 7; (with_reducible refine (HSS.out _ HW3.out).mono ?_); rintro e w5 ⟨v5, rfl, hr5, b5⟩; obtain ⟨vf, vg, rfl, -⟩ := id hr5; have HB5 := Lib.hid (HB3.out.trans (b5.mono HB3.out.size)); have HR5 := Lib.hid hr5; have HW5 := Lib.hid (HP.out _ _ HW3.out b5); clear hr5 b5)
            | (go_at_call 6; refine (HAW.out _ HW5.out).mono ?_; rintro e w9 ⟨rfl, b9⟩; have HB9 := Lib.hid (HB5.out.trans (b9.mono HB5.out.size)); clear b9)
          go_ret
          exact ⟨rfl, HB9.out⟩
      · have hnz : ¬ (32 : Int) < (n : Int) := by omega
        have hnd : decide ((32 : Int) < (n : Int)) = false := decide_eq_false hnz
        have hnn : (n : Int) ≤ 32 := by omega
        rw [if_neg hn32, if_neg hn32] at HSQ
        clear hn
        have HLN : Hid (l.length = n) := HNL
        by_cases hE : E = 0
        · subst hE
          obtain ⟨q2, hq2, hj2, hs2⟩ := HX.out rfl
          have HJ2 := Lib.hid hj2
          have HS2 := Lib.hid hs2
          have k1 : (9223372036854775807 < 2 + q2.size) = False := eq_false (by omega)
          have k2 : (9223372036854775807 < 2 + q2.size + 1) = False := eq_false (by omega)
          have e1 : (⟨#[9, 32]⟩ : ByteArray).size = 2 := rfl
          have e2 : (⟨#[32]⟩ : ByteArray).size = 1 := rfl
          clear HX HBE hj2 hs2
          go_enter Tryd.func5, Tryd.ntmps5
          go_wp2_with first
            | (go_at_call 12; refine HF.out.mono ?_; rintro e w1 ⟨rfl, rfl⟩)
            | (go_at_call 13; (with_reducible refine HJ1.out.mono ?_); rintro e w2 ⟨rfl, b2⟩; have HB2 := Lib.hid b2; have HL2 := Lib.hid (HL.out.below b2); have HW2 := Lib.hid (HP.out _ _ HW.out b2); clear b2)
            | (go_at_call 7; (with_reducible refine (HSQ.out _ HW2.out).mono ?_); rintro e w3 ⟨v3, rfl, hr3, b3⟩; obtain ⟨vd, ve, rfl, -⟩ := id hr3; (try rw [HLN.out]); rw [HLN.out] at hr3; have HB3 := Lib.hid (HB2.out.trans (b3.mono HB2.out.size)); have HL3 := Lib.hid (HL2.out.below b3); have HR3 := Lib.hid hr3; have HW3 := Lib.hid (HP.out _ _ HW2.out b3); clear hr3 b3)
            | (go_at_call 9; (with_reducible refine (HSM.out _ _ _ _ HL3.out HR3.out).mono ?_); rintro e w4 ⟨rfl, b4⟩; have HB4 := Lib.hid (HB3.out.trans (b4.mono HB3.out.size)); have HW4 := Lib.hid (HP.out _ _ HW3.out b4); clear b4)
            | (go_at_call 7; (with_reducible refine (HSS.out _ HW4.out).mono ?_); rintro e w5 ⟨v5, rfl, hr5, b5⟩; obtain ⟨vf, vg, rfl, -⟩ := id hr5; have HB5 := Lib.hid (HB4.out.trans (b5.mono HB4.out.size)); have HR5 := Lib.hid hr5; have HW5 := Lib.hid (HP.out _ _ HW4.out b5); clear hr5 b5)
            | (go_at_call 13; (with_reducible refine (HJ2.out _ _ HW5.out HR5.out).mono ?_); rintro e w6 ⟨rfl, b6⟩; have HB6 := Lib.hid (HB5.out.trans (b6.mono HB5.out.size)); have HR6 := Lib.hid (HR5.out.below b6); have HW6 := Lib.hid (HP.out _ _ HW5.out b6); clear b6)
            | (go_at_call 7; (with_reducible refine (HS2.out _ HW6.out).mono ?_); rintro e w7 ⟨v7, rfl, hr7, b7⟩; obtain ⟨vh, vi, rfl, -⟩ := id hr7; have HB7 := Lib.hid (HB6.out.trans (b7.mono HB6.out.size)); have HR7 := Lib.hid hr7; have HR67 := Lib.hid (HR6.out.below b7); have HW7 := Lib.hid (HP.out _ _ HW6.out b7); clear hr7 b7)
            | (go_at_call 9; (with_reducible refine (HSM.out _ _ _ _ HR67.out HR7.out).mono ?_); rintro e w8 ⟨rfl, b8⟩; have HB8 := Lib.hid (HB7.out.trans (b8.mono HB7.out.size)); have HW8 := Lib.hid (HP.out _ _ HW7.out b8); clear b8)
            | (go_at_call 6; refine (HAW.out _ HW8.out).mono ?_; rintro e w9 ⟨rfl, b9⟩; have HB9 := Lib.hid (HB8.out.trans (b9.mono HB8.out.size)); clear b9)
          go_ret
          exact ⟨rfl, HB9.out⟩
        · obtain rfl := HBE.out hE
          have hE1 : (E != 0) = true := bne_iff_ne.2 hE
          clear HX HBE hE
          go_enter Tryd.func5, Tryd.ntmps5
          go_wp2_with first
            | (go_at_call 12; refine HF.out.mono ?_; rintro e w1 ⟨rfl, rfl⟩)
            | (go_at_call 13; (with_reducible refine HJ1.out.mono ?_); rintro e w2 ⟨rfl, b2⟩; have HB2 := Lib.hid b2; have HL2 := Lib.hid (HL.out.below b2); have HW2 := Lib.hid (HP.out _ _ HW.out b2); clear b2)
            | (go_at_call 7; (with_reducible refine (HSQ.out _ HW2.out).mono ?_); rintro e w3 ⟨v3, rfl, hr3, b3⟩; obtain ⟨vd, ve, rfl, -⟩ := id hr3; (try rw [HLN.out]); rw [HLN.out] at hr3; have HB3 := Lib.hid (HB2.out.trans (b3.mono HB2.out.size)); have HL3 := Lib.hid (HL2.out.below b3); have HR3 := Lib.hid hr3; have HW3 := Lib.hid (HP.out _ _ HW2.out b3); clear hr3 b3)
            | (go_at_call 9; (with_reducible refine (HSM.out _ _ _ _ HL3.out HR3.out).mono ?_); rintro e w4 ⟨rfl, b4⟩; have HB4 := Lib.hid (HB3.out.trans (b4.mono HB3.out.size)); have HW4 := Lib.hid (HP.out _ _ HW3.out b4); clear b4)
            | (go_at_call 7; (with_reducible refine (HSS.out _ HW4.out).mono ?_); rintro e w5 ⟨v5, rfl, hr5, b5⟩; obtain ⟨vf, vg, rfl, -⟩ := id hr5; have HB5 := Lib.hid (HB4.out.trans (b5.mono HB4.out.size)); have HR5 := Lib.hid hr5; have HW5 := Lib.hid (HP.out _ _ HW4.out b5); clear hr5 b5)
            | (go_at_call 6; refine (HAW.out _ HW5.out).mono ?_; rintro e w9 ⟨rfl, b9⟩; have HB9 := Lib.hid (HB5.out.trans (b9.mono HB5.out.size)); clear b9)
          go_ret
          exact ⟨rfl, HB9.out⟩
end
end Go.Proofs.YtfafoognjodeiaaDoor
