/- SizeBack: a canonical form is read as its amount, and no text of an amount is shorter. -/
import Derived.Test.YtagccngcedblhaaDoorSizAwake
namespace Go.Proofs.YtagccngcedblhaaDoor
open Go.RowKit
open Dg
set_option linter.unusedVariables false
set_option maxHeartbeats 2000000 in
theorem ZBackInOk (n : Int) (s q : ByteArray) (w : World) (HL : Hid (Let4 w)) (h1 : -9223372036854775808 ≤ n) (h2 : n ≤ 9223372036854775807) (hs : s.size ≤ maxLen) (hlen : ¬ (2000 : Int) < (s.size : Int)) (c1 : 0 ≤ n) (c2 : n ≤ 1125899906842624)
    (HQ : Hid (zT n = q.data.toList)) (hqs : q.size ≤ maxLen) (HX : Hid (zN q.data.toList = n ∧ zE q.data.toList = 0)) (k : Int) (HK : Hid (zN s.data.toList = k ∧ zE s.data.toList = 0)) (k1 : -9223372036854775808 ≤ k) (k2 : k ≤ 9223372036854775807) (p : ByteArray) (HP : Hid (zT k = p.data.toList)) (hp : (p.size : Int) ≤ (s.size : Int)) :
    Calls Tryd.prog 5 #[.int .i64 n, .string s] w fun e w' => e = .returned (.bool true) ∧ Below w.heap.size w w' := by
  have hs' := hs
  unfold maxLen at hs'
  go_enter Tryd.func5, Tryd.ntmps5
  go_wp2_with fail
  refine (ZText_q n q _ HL.out h1 h2 HQ.out).mono ?_
  rintro e w1 ⟨rfl, hb1⟩
  have hL1 := Lib.hid (HL.out.keep hb1)
  go_wp2_with fail
  refine (ZParse_q q n 0 _ hL1.out hqs HX.out.1 HX.out.2).mono ?_
  rintro e w2 ⟨rfl, hb2⟩
  have b2 := belowNext hb1 hb2
  have hL2 := Lib.hid (hL1.out.keep hb2)
  clear hb1 hb2
  go_wp2_with fail
  refine (ZParse_q s k 0 _ hL2.out hs HK.out.1 HK.out.2).mono ?_
  rintro e w3 ⟨rfl, hb3⟩
  have b3 := belowNext b2 hb3
  have hL3 := Lib.hid (hL2.out.keep hb3)
  clear b2 hb3
  go_wp2_with fail
  refine (ZText_q k p _ hL3.out k1 k2 HP.out).mono ?_
  rintro e w4 ⟨rfl, hb4⟩
  have b4 := belowNext b3 hb4
  have hL4 := Lib.hid (hL3.out.keep hb4)
  clear b3 hb4
  go_wp2_with fail
  refine (zawake_any _ hL4.out).mono ?_
  rintro e w5 ⟨rfl, hb5⟩
  have b5 := belowNext b4 hb5
  clear b4 hb5
  go_wp2
  go_ret
  exact ⟨rfl, b5⟩
set_option maxHeartbeats 2000000 in
theorem ZBackInErr (n : Int) (s q : ByteArray) (w : World) (HL : Hid (Let4 w)) (h1 : -9223372036854775808 ≤ n) (h2 : n ≤ 9223372036854775807) (hs : s.size ≤ maxLen) (hlen : ¬ (2000 : Int) < (s.size : Int)) (c1 : 0 ≤ n) (c2 : n ≤ 1125899906842624)
    (HQ : Hid (zT n = q.data.toList)) (hqs : q.size ≤ maxLen) (HX : Hid (zN q.data.toList = n ∧ zE q.data.toList = 0)) (k : Int) (f : Int) (HK : Hid (zN s.data.toList = k ∧ zE s.data.toList = f)) (hf : (f == 0) = false) (hf1 : (f != 0) = true) (hf2 : ¬ f = 0) :
    Calls Tryd.prog 5 #[.int .i64 n, .string s] w fun e w' => e = .returned (.bool true) ∧ Below w.heap.size w w' := by
  have hs' := hs
  unfold maxLen at hs'
  go_enter Tryd.func5, Tryd.ntmps5
  go_wp2_with fail
  refine (ZText_q n q _ HL.out h1 h2 HQ.out).mono ?_
  rintro e w1 ⟨rfl, hb1⟩
  have hL1 := Lib.hid (HL.out.keep hb1)
  go_wp2_with fail
  refine (ZParse_q q n 0 _ hL1.out hqs HX.out.1 HX.out.2).mono ?_
  rintro e w2 ⟨rfl, hb2⟩
  have b2 := belowNext hb1 hb2
  have hL2 := Lib.hid (hL1.out.keep hb2)
  clear hb1 hb2
  go_wp2_with fail
  refine (ZParse_q s k f _ hL2.out hs HK.out.1 HK.out.2).mono ?_
  rintro e w3 ⟨rfl, hb3⟩
  have b3 := belowNext b2 hb3
  have hL3 := Lib.hid (hL2.out.keep hb3)
  clear b2 hb3
  have b4 := b3
  have hL4 := hL3
  clear b3
  go_wp2_with fail
  refine (zawake_any _ hL4.out).mono ?_
  rintro e w5 ⟨rfl, hb5⟩
  have b5 := belowNext b4 hb5
  clear b4 hb5
  go_wp2
  go_ret
  exact ⟨rfl, b5⟩
set_option maxHeartbeats 2000000 in
theorem ZBackNegOk (n : Int) (s q : ByteArray) (w : World) (HL : Hid (Let4 w)) (h1 : -9223372036854775808 ≤ n) (h2 : n ≤ 9223372036854775807) (hs : s.size ≤ maxLen) (hlen : ¬ (2000 : Int) < (s.size : Int)) (c1 : ¬ 0 ≤ n)
    (HQ : Hid (zT n = q.data.toList)) (hqs : q.size ≤ maxLen) (x e0 : Int) (HX : Hid (zN q.data.toList = x ∧ zE q.data.toList = e0)) (k : Int) (HK : Hid (zN s.data.toList = k ∧ zE s.data.toList = 0)) (k1 : -9223372036854775808 ≤ k) (k2 : k ≤ 9223372036854775807) (p : ByteArray) (HP : Hid (zT k = p.data.toList)) (hp : (p.size : Int) ≤ (s.size : Int)) :
    Calls Tryd.prog 5 #[.int .i64 n, .string s] w fun e w' => e = .returned (.bool true) ∧ Below w.heap.size w w' := by
  have hs' := hs
  unfold maxLen at hs'
  go_enter Tryd.func5, Tryd.ntmps5
  go_wp2_with fail
  refine (ZText_q n q _ HL.out h1 h2 HQ.out).mono ?_
  rintro e w1 ⟨rfl, hb1⟩
  have hL1 := Lib.hid (HL.out.keep hb1)
  go_wp2_with fail
  refine (ZParse_q q x e0 _ hL1.out hqs HX.out.1 HX.out.2).mono ?_
  rintro e w2 ⟨rfl, hb2⟩
  have b2 := belowNext hb1 hb2
  have hL2 := Lib.hid (hL1.out.keep hb2)
  clear hb1 hb2
  go_wp2_with fail
  refine (ZParse_q s k 0 _ hL2.out hs HK.out.1 HK.out.2).mono ?_
  rintro e w3 ⟨rfl, hb3⟩
  have b3 := belowNext b2 hb3
  have hL3 := Lib.hid (hL2.out.keep hb3)
  clear b2 hb3
  go_wp2_with fail
  refine (ZText_q k p _ hL3.out k1 k2 HP.out).mono ?_
  rintro e w4 ⟨rfl, hb4⟩
  have b4 := belowNext b3 hb4
  have hL4 := Lib.hid (hL3.out.keep hb4)
  clear b3 hb4
  go_wp2_with fail
  refine (zawake_any _ hL4.out).mono ?_
  rintro e w5 ⟨rfl, hb5⟩
  have b5 := belowNext b4 hb5
  clear b4 hb5
  go_wp2
  go_ret
  exact ⟨rfl, b5⟩
set_option maxHeartbeats 2000000 in
theorem ZBackNegErr (n : Int) (s q : ByteArray) (w : World) (HL : Hid (Let4 w)) (h1 : -9223372036854775808 ≤ n) (h2 : n ≤ 9223372036854775807) (hs : s.size ≤ maxLen) (hlen : ¬ (2000 : Int) < (s.size : Int)) (c1 : ¬ 0 ≤ n)
    (HQ : Hid (zT n = q.data.toList)) (hqs : q.size ≤ maxLen) (x e0 : Int) (HX : Hid (zN q.data.toList = x ∧ zE q.data.toList = e0)) (k : Int) (f : Int) (HK : Hid (zN s.data.toList = k ∧ zE s.data.toList = f)) (hf : (f == 0) = false) (hf1 : (f != 0) = true) (hf2 : ¬ f = 0) :
    Calls Tryd.prog 5 #[.int .i64 n, .string s] w fun e w' => e = .returned (.bool true) ∧ Below w.heap.size w w' := by
  have hs' := hs
  unfold maxLen at hs'
  go_enter Tryd.func5, Tryd.ntmps5
  go_wp2_with fail
  refine (ZText_q n q _ HL.out h1 h2 HQ.out).mono ?_
  rintro e w1 ⟨rfl, hb1⟩
  have hL1 := Lib.hid (HL.out.keep hb1)
  go_wp2_with fail
  refine (ZParse_q q x e0 _ hL1.out hqs HX.out.1 HX.out.2).mono ?_
  rintro e w2 ⟨rfl, hb2⟩
  have b2 := belowNext hb1 hb2
  have hL2 := Lib.hid (hL1.out.keep hb2)
  clear hb1 hb2
  go_wp2_with fail
  refine (ZParse_q s k f _ hL2.out hs HK.out.1 HK.out.2).mono ?_
  rintro e w3 ⟨rfl, hb3⟩
  have b3 := belowNext b2 hb3
  have hL3 := Lib.hid (hL2.out.keep hb3)
  clear b2 hb3
  have b4 := b3
  have hL4 := hL3
  clear b3
  go_wp2_with fail
  refine (zawake_any _ hL4.out).mono ?_
  rintro e w5 ⟨rfl, hb5⟩
  have b5 := belowNext b4 hb5
  clear b4 hb5
  go_wp2
  go_ret
  exact ⟨rfl, b5⟩
set_option maxHeartbeats 2000000 in
theorem ZBackBigOk (n : Int) (s q : ByteArray) (w : World) (HL : Hid (Let4 w)) (h1 : -9223372036854775808 ≤ n) (h2 : n ≤ 9223372036854775807) (hs : s.size ≤ maxLen) (hlen : ¬ (2000 : Int) < (s.size : Int)) (c1 : 0 ≤ n) (c2 : ¬ n ≤ 1125899906842624)
    (HQ : Hid (zT n = q.data.toList)) (hqs : q.size ≤ maxLen) (x e0 : Int) (HX : Hid (zN q.data.toList = x ∧ zE q.data.toList = e0)) (k : Int) (HK : Hid (zN s.data.toList = k ∧ zE s.data.toList = 0)) (k1 : -9223372036854775808 ≤ k) (k2 : k ≤ 9223372036854775807) (p : ByteArray) (HP : Hid (zT k = p.data.toList)) (hp : (p.size : Int) ≤ (s.size : Int)) :
    Calls Tryd.prog 5 #[.int .i64 n, .string s] w fun e w' => e = .returned (.bool true) ∧ Below w.heap.size w w' := by
  have hs' := hs
  unfold maxLen at hs'
  go_enter Tryd.func5, Tryd.ntmps5
  go_wp2_with fail
  refine (ZText_q n q _ HL.out h1 h2 HQ.out).mono ?_
  rintro e w1 ⟨rfl, hb1⟩
  have hL1 := Lib.hid (HL.out.keep hb1)
  go_wp2_with fail
  refine (ZParse_q q x e0 _ hL1.out hqs HX.out.1 HX.out.2).mono ?_
  rintro e w2 ⟨rfl, hb2⟩
  have b2 := belowNext hb1 hb2
  have hL2 := Lib.hid (hL1.out.keep hb2)
  clear hb1 hb2
  go_wp2_with fail
  refine (ZParse_q s k 0 _ hL2.out hs HK.out.1 HK.out.2).mono ?_
  rintro e w3 ⟨rfl, hb3⟩
  have b3 := belowNext b2 hb3
  have hL3 := Lib.hid (hL2.out.keep hb3)
  clear b2 hb3
  go_wp2_with fail
  refine (ZText_q k p _ hL3.out k1 k2 HP.out).mono ?_
  rintro e w4 ⟨rfl, hb4⟩
  have b4 := belowNext b3 hb4
  have hL4 := Lib.hid (hL3.out.keep hb4)
  clear b3 hb4
  go_wp2_with fail
  refine (zawake_any _ hL4.out).mono ?_
  rintro e w5 ⟨rfl, hb5⟩
  have b5 := belowNext b4 hb5
  clear b4 hb5
  go_wp2
  go_ret
  exact ⟨rfl, b5⟩
set_option maxHeartbeats 2000000 in
theorem ZBackBigErr (n : Int) (s q : ByteArray) (w : World) (HL : Hid (Let4 w)) (h1 : -9223372036854775808 ≤ n) (h2 : n ≤ 9223372036854775807) (hs : s.size ≤ maxLen) (hlen : ¬ (2000 : Int) < (s.size : Int)) (c1 : 0 ≤ n) (c2 : ¬ n ≤ 1125899906842624)
    (HQ : Hid (zT n = q.data.toList)) (hqs : q.size ≤ maxLen) (x e0 : Int) (HX : Hid (zN q.data.toList = x ∧ zE q.data.toList = e0)) (k : Int) (f : Int) (HK : Hid (zN s.data.toList = k ∧ zE s.data.toList = f)) (hf : (f == 0) = false) (hf1 : (f != 0) = true) (hf2 : ¬ f = 0) :
    Calls Tryd.prog 5 #[.int .i64 n, .string s] w fun e w' => e = .returned (.bool true) ∧ Below w.heap.size w w' := by
  have hs' := hs
  unfold maxLen at hs'
  go_enter Tryd.func5, Tryd.ntmps5
  go_wp2_with fail
  refine (ZText_q n q _ HL.out h1 h2 HQ.out).mono ?_
  rintro e w1 ⟨rfl, hb1⟩
  have hL1 := Lib.hid (HL.out.keep hb1)
  go_wp2_with fail
  refine (ZParse_q q x e0 _ hL1.out hqs HX.out.1 HX.out.2).mono ?_
  rintro e w2 ⟨rfl, hb2⟩
  have b2 := belowNext hb1 hb2
  have hL2 := Lib.hid (hL1.out.keep hb2)
  clear hb1 hb2
  go_wp2_with fail
  refine (ZParse_q s k f _ hL2.out hs HK.out.1 HK.out.2).mono ?_
  rintro e w3 ⟨rfl, hb3⟩
  have b3 := belowNext b2 hb3
  have hL3 := Lib.hid (hL2.out.keep hb3)
  clear b2 hb3
  have b4 := b3
  have hL4 := hL3
  clear b3
  go_wp2_with fail
  refine (zawake_any _ hL4.out).mono ?_
  rintro e w5 ⟨rfl, hb5⟩
  have b5 := belowNext b4 hb5
  clear b4 hb5
  go_wp2
  go_ret
  exact ⟨rfl, b5⟩
theorem zT_small (n : Int) : (zT n).length ≤ 17 := by
  by_cases h : n < 0 ∨ 1125899906842624 < n
  · rw [zT_no h]; decide
  · obtain ⟨m, rfl⟩ : ∃ m : Nat, n = (m : Int) := ⟨n.toNat, by omega⟩
    have hm : m ≤ 1125899906842624 := by omega
    rw [zT_in hm]
    unfold zTN
    have h1 := dgw_16 (m := m / bz m) (Nat.le_trans (Nat.div_le_self _ _) hm)
    have h2 : (ltz m).length ≤ 1 := by rcases jz_cases m with ⟨-, -, e, -⟩ | ⟨-, -, e, -⟩ | ⟨-, -, e, -⟩ | ⟨-, -, e, -⟩ <;> rw [e] <;> decide
    rw [List.length_append]; omega
set_option maxHeartbeats 2000000 in
theorem SizeBack_walk (n : Int) (s : ByteArray) (hn : (Lit.int .i64 n).wf = true) (hs : s.size ≤ maxLen) (w : World) (hL : Let4 w) :
    Calls Tryd.prog 5 #[.int .i64 n, .string s] w fun e w' => e = .returned (.bool true) ∧ Below w.heap.size w w' := by
  have hx : -9223372036854775808 ≤ n ∧ n ≤ 9223372036854775807 := by simpa [Lit.wf, IntKind.min, IntKind.max, IntKind.signed, IntKind.bits] using hn
  obtain ⟨h1, h2⟩ := hx
  clear hn
  have HL := Lib.hid hL
  clear hL
  by_cases hlen : (2000 : Int) < (s.size : Int)
  · have hs' := hs
    unfold maxLen at hs'
    go_enter Tryd.func5, Tryd.ntmps5
    go_wp2_with (go_at_call 6; refine (zawake_any _ HL.out).mono ?_; rintro e w5 ⟨rfl, hb5⟩)
    go_ret
    exact ⟨rfl, hb5⟩
  · obtain ⟨q, hq⟩ : ∃ q : ByteArray, zT n = q.data.toList := ⟨⟨(zT n).toArray⟩, by simp⟩
    have hqs : q.size ≤ maxLen := by rw [size_of hq]; exact Nat.le_trans (zT_small n) (by decide)
    obtain ⟨p, hp⟩ : ∃ p : ByteArray, zT (zN s.data.toList) = p.data.toList := ⟨⟨(zT (zN s.data.toList)).toArray⟩, by simp⟩
    have hk := zN_bd s.data.toList
    have HQ := Lib.hid hq
    have HP := Lib.hid hp
    by_cases hf : zE s.data.toList = 0
    · have hle : (p.size : Int) ≤ (s.size : Int) := by
        have := z_short hf
        rw [← size_of hp, len_eq] at this
        omega
      have HK := Lib.hid (And.intro (Eq.refl (zN s.data.toList)) hf)
      by_cases c1 : 0 ≤ n
      · by_cases c2 : n ≤ 1125899906842624
        · obtain ⟨m, rfl⟩ : ∃ m : Nat, n = (m : Int) := ⟨n.toNat, by omega⟩
          have hb := z_back (n := m) (by omega)
          rw [← zT_in (by omega), hq] at hb
          exact ZBackInOk _ s q w HL h1 h2 hs hlen c1 c2 HQ hqs (Lib.hid hb) _ HK (by omega) (by omega) p HP hle
        · exact ZBackBigOk n s q w HL h1 h2 hs hlen c1 c2 HQ hqs _ _ (Lib.hid ⟨rfl, rfl⟩) _ HK (by omega) (by omega) p HP hle
      · exact ZBackNegOk n s q w HL h1 h2 hs hlen c1 HQ hqs _ _ (Lib.hid ⟨rfl, rfl⟩) _ HK (by omega) (by omega) p HP hle
    · have hf' : (zE s.data.toList == 0) = false := beq_eq_false_iff_ne.2 hf
      have HK := Lib.hid (And.intro (Eq.refl (zN s.data.toList)) (Eq.refl (zE s.data.toList)))
      by_cases c1 : 0 ≤ n
      · by_cases c2 : n ≤ 1125899906842624
        · obtain ⟨m, rfl⟩ : ∃ m : Nat, n = (m : Int) := ⟨n.toNat, by omega⟩
          have hb := z_back (n := m) (by omega)
          rw [← zT_in (by omega), hq] at hb
          exact ZBackInErr _ s q w HL h1 h2 hs hlen c1 c2 HQ hqs (Lib.hid hb) _ _ HK hf' (by rw [bne_iff_ne]; exact hf) hf
        · exact ZBackBigErr n s q w HL h1 h2 hs hlen c1 c2 HQ hqs _ _ (Lib.hid ⟨rfl, rfl⟩) _ _ HK hf' (by rw [bne_iff_ne]; exact hf) hf
      · exact ZBackNegErr n s q w HL h1 h2 hs hlen c1 HQ hqs _ _ (Lib.hid ⟨rfl, rfl⟩) _ _ HK hf' (by rw [bne_iff_ne]; exact hf) hf
end Go.Proofs.YtagccngcedblhaaDoor
