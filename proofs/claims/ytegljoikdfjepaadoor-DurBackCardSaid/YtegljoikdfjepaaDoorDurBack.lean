/- DurBack: reading what was written gives the duration; what was read is written so that it is read as the same; two durations have two texts. -/
import Derived.Test.YtegljoikdfjepaaDoorDurAwake
namespace Go.Proofs.YtegljoikdfjepaaDoor
open Go.RowKit
open Dg
set_option linter.unusedVariables false
theorem durTL_len (n : Int) : (durTL n).length ≤ 60 := by
  unfold durTL
  split
  · simp
  · unfold durT
    split
    · simp
    · rw [List.length_append, List.length_append, List.length_append]
      have e1 := pt_len (m := n.toNat / 3600000) (u := [104]) (by omega) (by decide)
      have e2 := pt_len (m := n.toNat % 3600000 / 60000) (u := [109]) (by omega) (by decide)
      have e3 := pt_len (m := n.toNat % 60000 / 1000) (u := [115]) (by omega) (by decide)
      have e4 := pt_len (m := n.toNat % 1000) (u := [109, 115]) (by omega) (by decide)
      omega
theorem DText_q (n : Int) (T : ByteArray) (w : World) (h1 : -9223372036854775808 ≤ n) (h2 : n ≤ 9223372036854775807) (hT : durTL n = T.data.toList) :
    Calls Tryd.prog 9 #[.int .i64 n] w fun e w' => e = .returned (.string T) ∧ Below w.heap.size w w' :=
  (DText_any n w h1 h2).mono fun e w' ⟨g1, g2⟩ => ⟨by rw [g1, mk_of hT], g2⟩
theorem DParse_q (s : ByteArray) (N E : Int) (w : World) (hs : s.size ≤ maxLen) (hN : durN s.data.toList = N) (hE : durE s.data.toList = E) :
    Calls Tryd.prog 7 #[.string s] w fun e w' => e = .returned (.tuple #[.int .i64 N, .int .i64 E]) ∧ Below w.heap.size w w' :=
  (DParse_any s w hs).mono fun e w' ⟨g1, g2⟩ => ⟨by rw [g1, hN, hE], g2⟩
theorem text_small {n : Int} {T : ByteArray} (h : durTL n = T.data.toList) : T.size ≤ maxLen := by
  have h1 := durTL_len n
  rw [h, len_eq] at h1
  unfold maxLen; omega

set_option maxHeartbeats 4000000 in
theorem DurBack_walk (n m : Int) (s : ByteArray) (hn : (Lit.int .i64 n).wf = true) (hm : (Lit.int .i64 m).wf = true) (hs : s.size ≤ maxLen) (w : World) :
    Calls Tryd.prog 5 #[.int .i64 n, .int .i64 m, .string s] w fun e w' => e = .returned (.bool true) ∧ Below w.heap.size w w' := by
  have hx : -9223372036854775808 ≤ n ∧ n ≤ 9223372036854775807 := by simpa [Lit.wf, IntKind.min, IntKind.max, IntKind.signed, IntKind.bits] using hn
  have hy : -9223372036854775808 ≤ m ∧ m ≤ 9223372036854775807 := by simpa [Lit.wf, IntKind.min, IntKind.max, IntKind.signed, IntKind.bits] using hm
  obtain ⟨h1, h2⟩ := hx
  obtain ⟨h3, h4⟩ := hy
  clear hn hm
  have hs' := hs
  unfold maxLen at hs'
  by_cases hlen : 2000 < s.size
  · have hlen' : (2000 : Int) < (s.size : Int) := by omega
    go_enter Tryd.func5, Tryd.ntmps5
    go_wp2_with (go_at_call 6; refine (dawake_any _).mono ?_; rintro e w5 ⟨rfl, hb5⟩)
    go_ret
    exact ⟨rfl, hb5⟩
  · have hlen' : ¬ (2000 : Int) < (s.size : Int) := by omega
    obtain ⟨T, hT⟩ : ∃ T : ByteArray, durTL n = T.data.toList := ⟨⟨(durTL n).toArray⟩, by simp⟩
    obtain ⟨M, hM⟩ : ∃ M : ByteArray, durTL m = M.data.toList := ⟨⟨(durTL m).toArray⟩, by simp⟩
    have hTs := text_small hT
    have hMs := text_small hM
    have HT := Lib.hid hT
    have HM := Lib.hid hM
    by_cases hr : 0 ≤ n ∧ n ≤ 1099511627776
    · obtain ⟨r0, r1⟩ := hr
      have HB : Hid (durN T.data.toList = n ∧ durE T.data.toList = 0) := Lib.hid (by rw [← hT]; exact dur_back r0 r1)
      by_cases hmr : 0 ≤ m ∧ m ≤ 1099511627776
      · obtain ⟨m0, m1⟩ := hmr
        by_cases hnm : n = m
        · subst hnm
          obtain rfl : T = M := bytes_ext (by rw [← hT, ← hM])
          clear hT hM
          by_cases hE : durE s.data.toList = 0
          · have HE := Lib.hid hE
            clear hE
            obtain ⟨k, hk⟩ : ∃ k, durN s.data.toList = k := ⟨_, rfl⟩
            have kb := durN_bd s.data.toList
            rw [hk] at kb
            obtain ⟨kb1, kb2⟩ := kb
            have k1 : -9223372036854775808 ≤ k := by omega
            have k2 : k ≤ 9223372036854775807 := by omega
            obtain ⟨K, hKT⟩ : ∃ K : ByteArray, durTL k = K.data.toList := ⟨⟨(durTL k).toArray⟩, by simp⟩
            have hKs := text_small hKT
            have HBk : Hid (durN K.data.toList = k ∧ durE K.data.toList = 0) := Lib.hid (by rw [← hKT]; exact dur_back kb1 kb2)
            have HK := Lib.hid hk
            have HKT := Lib.hid hKT
            clear hk hKT
            go_enter Tryd.func5, Tryd.ntmps5
            have b0 : Below w.heap.size w w := Below.refl _ _
            go_wp2_with fail
            refine (DText_q n T _ h1 h2 HT.out).mono ?_
            rintro e w1 ⟨rfl, hb⟩
            have b1 := belowNext b0 hb
            clear b0 hb
            go_wp2_with fail
            refine (DParse_q T n 0 _ hTs HB.out.1 HB.out.2).mono ?_
            rintro e w2 ⟨rfl, hb⟩
            have b2 := belowNext b1 hb
            clear b1 hb
            go_wp2_with fail
            refine (DText_q n T _ h1 h2 HT.out).mono ?_
            rintro e w3 ⟨rfl, hb⟩
            have b3 := belowNext b2 hb
            clear b2 hb
            go_wp2_with fail
            refine (DText_q n T _ h1 h2 HT.out).mono ?_
            rintro e w4 ⟨rfl, hb⟩
            have b4 := belowNext b3 hb
            clear b3 hb
            go_wp2_with fail
            refine (DParse_q s k 0 _ hs HK.out HE.out).mono ?_
            rintro e w5 ⟨rfl, hb⟩
            have b5 := belowNext b4 hb
            clear b4 hb
            go_wp2_with fail
            refine (DText_q k K _ k1 k2 HKT.out).mono ?_
            rintro e w6 ⟨rfl, hb⟩
            have b6 := belowNext b5 hb
            clear b5 hb
            go_wp2_with fail
            refine (DParse_q K k 0 _ hKs HBk.out.1 HBk.out.2).mono ?_
            rintro e w7 ⟨rfl, hb⟩
            have b7 := belowNext b6 hb
            clear b6 hb
            go_wp2_with fail
            refine (dawake_any _).mono ?_
            rintro e w8 ⟨rfl, hb⟩
            have b8 := belowNext b7 hb
            clear b7 hb
            go_wp2
            go_ret
            exact ⟨rfl, b8⟩
          · have HK := Lib.hid (durN_err hE)
            obtain ⟨f, hf⟩ : ∃ f, durE s.data.toList = f := ⟨_, rfl⟩
            have HE := Lib.hid hf
            have hf0 : (f == 0) = false := beq_eq_false_iff_ne.2 (by rw [← hf]; exact hE)
            have hf1 : ¬ f = 0 := by rw [← hf]; exact hE
            clear hE hf
            go_enter Tryd.func5, Tryd.ntmps5
            have b0 : Below w.heap.size w w := Below.refl _ _
            go_wp2_with fail
            refine (DText_q n T _ h1 h2 HT.out).mono ?_
            rintro e w1 ⟨rfl, hb⟩
            have b1 := belowNext b0 hb
            clear b0 hb
            go_wp2_with fail
            refine (DParse_q T n 0 _ hTs HB.out.1 HB.out.2).mono ?_
            rintro e w2 ⟨rfl, hb⟩
            have b2 := belowNext b1 hb
            clear b1 hb
            go_wp2_with fail
            refine (DText_q n T _ h1 h2 HT.out).mono ?_
            rintro e w3 ⟨rfl, hb⟩
            have b3 := belowNext b2 hb
            clear b2 hb
            go_wp2_with fail
            refine (DText_q n T _ h1 h2 HT.out).mono ?_
            rintro e w4 ⟨rfl, hb⟩
            have b4 := belowNext b3 hb
            clear b3 hb
            go_wp2_with fail
            refine (DParse_q s 0 f _ hs HK.out HE.out).mono ?_
            rintro e w5 ⟨rfl, hb⟩
            have b5 := belowNext b4 hb
            clear b4 hb
            go_wp2_with fail
            refine (dawake_any _).mono ?_
            rintro e w6 ⟨rfl, hb⟩
            have b6 := belowNext b5 hb
            clear b5 hb
            go_wp2
            go_ret
            exact ⟨rfl, b6⟩
        · have hne : (n == m) = false := beq_eq_false_iff_ne.2 hnm
          have hTM : (T.toList == M.toList) = false := by
            rw [ByteArray.toList_eq, ByteArray.toList_eq]
            exact beq_eq_false_iff_ne.2 fun e => hnm (dur_inj r0 r1 m0 m1 (by rw [hT, hM, e]))
          have hTM2 : ¬ T.toList = M.toList := by
            rw [ByteArray.toList_eq, ByteArray.toList_eq]
            exact fun e => hnm (dur_inj r0 r1 m0 m1 (by rw [hT, hM, e]))
          have hTM3 : ¬ T = M := fun e => hTM2 (by rw [e])
          clear hT hM
          by_cases hE : durE s.data.toList = 0
          · have HE := Lib.hid hE
            clear hE
            obtain ⟨k, hk⟩ : ∃ k, durN s.data.toList = k := ⟨_, rfl⟩
            have kb := durN_bd s.data.toList
            rw [hk] at kb
            obtain ⟨kb1, kb2⟩ := kb
            have k1 : -9223372036854775808 ≤ k := by omega
            have k2 : k ≤ 9223372036854775807 := by omega
            obtain ⟨K, hKT⟩ : ∃ K : ByteArray, durTL k = K.data.toList := ⟨⟨(durTL k).toArray⟩, by simp⟩
            have hKs := text_small hKT
            have HBk : Hid (durN K.data.toList = k ∧ durE K.data.toList = 0) := Lib.hid (by rw [← hKT]; exact dur_back kb1 kb2)
            have HK := Lib.hid hk
            have HKT := Lib.hid hKT
            clear hk hKT
            go_enter Tryd.func5, Tryd.ntmps5
            have b0 : Below w.heap.size w w := Below.refl _ _
            go_wp2_with fail
            refine (DText_q n T _ h1 h2 HT.out).mono ?_
            rintro e w1 ⟨rfl, hb⟩
            have b1 := belowNext b0 hb
            clear b0 hb
            go_wp2_with fail
            refine (DParse_q T n 0 _ hTs HB.out.1 HB.out.2).mono ?_
            rintro e w2 ⟨rfl, hb⟩
            have b2 := belowNext b1 hb
            clear b1 hb
            go_wp2_with fail
            refine (DText_q n T _ h1 h2 HT.out).mono ?_
            rintro e w3 ⟨rfl, hb⟩
            have b3 := belowNext b2 hb
            clear b2 hb
            go_wp2_with fail
            refine (DText_q m M _ h3 h4 HM.out).mono ?_
            rintro e w4 ⟨rfl, hb⟩
            have b4 := belowNext b3 hb
            clear b3 hb
            go_wp2_with fail
            refine (DParse_q s k 0 _ hs HK.out HE.out).mono ?_
            rintro e w5 ⟨rfl, hb⟩
            have b5 := belowNext b4 hb
            clear b4 hb
            go_wp2_with fail
            refine (DText_q k K _ k1 k2 HKT.out).mono ?_
            rintro e w6 ⟨rfl, hb⟩
            have b6 := belowNext b5 hb
            clear b5 hb
            go_wp2_with fail
            refine (DParse_q K k 0 _ hKs HBk.out.1 HBk.out.2).mono ?_
            rintro e w7 ⟨rfl, hb⟩
            have b7 := belowNext b6 hb
            clear b6 hb
            go_wp2_with fail
            refine (dawake_any _).mono ?_
            rintro e w8 ⟨rfl, hb⟩
            have b8 := belowNext b7 hb
            clear b7 hb
            go_wp2
            go_ret
            exact ⟨rfl, b8⟩
          · have HK := Lib.hid (durN_err hE)
            obtain ⟨f, hf⟩ : ∃ f, durE s.data.toList = f := ⟨_, rfl⟩
            have HE := Lib.hid hf
            have hf0 : (f == 0) = false := beq_eq_false_iff_ne.2 (by rw [← hf]; exact hE)
            have hf1 : ¬ f = 0 := by rw [← hf]; exact hE
            clear hE hf
            go_enter Tryd.func5, Tryd.ntmps5
            have b0 : Below w.heap.size w w := Below.refl _ _
            go_wp2_with fail
            refine (DText_q n T _ h1 h2 HT.out).mono ?_
            rintro e w1 ⟨rfl, hb⟩
            have b1 := belowNext b0 hb
            clear b0 hb
            go_wp2_with fail
            refine (DParse_q T n 0 _ hTs HB.out.1 HB.out.2).mono ?_
            rintro e w2 ⟨rfl, hb⟩
            have b2 := belowNext b1 hb
            clear b1 hb
            go_wp2_with fail
            refine (DText_q n T _ h1 h2 HT.out).mono ?_
            rintro e w3 ⟨rfl, hb⟩
            have b3 := belowNext b2 hb
            clear b2 hb
            go_wp2_with fail
            refine (DText_q m M _ h3 h4 HM.out).mono ?_
            rintro e w4 ⟨rfl, hb⟩
            have b4 := belowNext b3 hb
            clear b3 hb
            go_wp2_with fail
            refine (DParse_q s 0 f _ hs HK.out HE.out).mono ?_
            rintro e w5 ⟨rfl, hb⟩
            have b5 := belowNext b4 hb
            clear b4 hb
            go_wp2_with fail
            refine (dawake_any _).mono ?_
            rintro e w6 ⟨rfl, hb⟩
            have b6 := belowNext b5 hb
            clear b5 hb
            go_wp2
            go_ret
            exact ⟨rfl, b6⟩
      · clear hT hM
        by_cases m0 : 0 ≤ m
        · have m1 : ¬ m ≤ 1099511627776 := fun hc => hmr ⟨m0, hc⟩
          clear hmr
          by_cases hE : durE s.data.toList = 0
          · have HE := Lib.hid hE
            clear hE
            obtain ⟨k, hk⟩ : ∃ k, durN s.data.toList = k := ⟨_, rfl⟩
            have kb := durN_bd s.data.toList
            rw [hk] at kb
            obtain ⟨kb1, kb2⟩ := kb
            have k1 : -9223372036854775808 ≤ k := by omega
            have k2 : k ≤ 9223372036854775807 := by omega
            obtain ⟨K, hKT⟩ : ∃ K : ByteArray, durTL k = K.data.toList := ⟨⟨(durTL k).toArray⟩, by simp⟩
            have hKs := text_small hKT
            have HBk : Hid (durN K.data.toList = k ∧ durE K.data.toList = 0) := Lib.hid (by rw [← hKT]; exact dur_back kb1 kb2)
            have HK := Lib.hid hk
            have HKT := Lib.hid hKT
            clear hk hKT
            go_enter Tryd.func5, Tryd.ntmps5
            have b0 : Below w.heap.size w w := Below.refl _ _
            go_wp2_with fail
            refine (DText_q n T _ h1 h2 HT.out).mono ?_
            rintro e w1 ⟨rfl, hb⟩
            have b1 := belowNext b0 hb
            clear b0 hb
            go_wp2_with fail
            refine (DParse_q T n 0 _ hTs HB.out.1 HB.out.2).mono ?_
            rintro e w2 ⟨rfl, hb⟩
            have b2 := belowNext b1 hb
            clear b1 hb
            go_wp2_with fail
            refine (DParse_q s k 0 _ hs HK.out HE.out).mono ?_
            rintro e w3 ⟨rfl, hb⟩
            have b3 := belowNext b2 hb
            clear b2 hb
            go_wp2_with fail
            refine (DText_q k K _ k1 k2 HKT.out).mono ?_
            rintro e w4 ⟨rfl, hb⟩
            have b4 := belowNext b3 hb
            clear b3 hb
            go_wp2_with fail
            refine (DParse_q K k 0 _ hKs HBk.out.1 HBk.out.2).mono ?_
            rintro e w5 ⟨rfl, hb⟩
            have b5 := belowNext b4 hb
            clear b4 hb
            go_wp2_with fail
            refine (dawake_any _).mono ?_
            rintro e w6 ⟨rfl, hb⟩
            have b6 := belowNext b5 hb
            clear b5 hb
            go_wp2
            go_ret
            exact ⟨rfl, b6⟩
          · have HK := Lib.hid (durN_err hE)
            obtain ⟨f, hf⟩ : ∃ f, durE s.data.toList = f := ⟨_, rfl⟩
            have HE := Lib.hid hf
            have hf0 : (f == 0) = false := beq_eq_false_iff_ne.2 (by rw [← hf]; exact hE)
            have hf1 : ¬ f = 0 := by rw [← hf]; exact hE
            clear hE hf
            go_enter Tryd.func5, Tryd.ntmps5
            have b0 : Below w.heap.size w w := Below.refl _ _
            go_wp2_with fail
            refine (DText_q n T _ h1 h2 HT.out).mono ?_
            rintro e w1 ⟨rfl, hb⟩
            have b1 := belowNext b0 hb
            clear b0 hb
            go_wp2_with fail
            refine (DParse_q T n 0 _ hTs HB.out.1 HB.out.2).mono ?_
            rintro e w2 ⟨rfl, hb⟩
            have b2 := belowNext b1 hb
            clear b1 hb
            go_wp2_with fail
            refine (DParse_q s 0 f _ hs HK.out HE.out).mono ?_
            rintro e w3 ⟨rfl, hb⟩
            have b3 := belowNext b2 hb
            clear b2 hb
            go_wp2_with fail
            refine (dawake_any _).mono ?_
            rintro e w4 ⟨rfl, hb⟩
            have b4 := belowNext b3 hb
            clear b3 hb
            go_wp2
            go_ret
            exact ⟨rfl, b4⟩
        · clear hmr
          by_cases hE : durE s.data.toList = 0
          · have HE := Lib.hid hE
            clear hE
            obtain ⟨k, hk⟩ : ∃ k, durN s.data.toList = k := ⟨_, rfl⟩
            have kb := durN_bd s.data.toList
            rw [hk] at kb
            obtain ⟨kb1, kb2⟩ := kb
            have k1 : -9223372036854775808 ≤ k := by omega
            have k2 : k ≤ 9223372036854775807 := by omega
            obtain ⟨K, hKT⟩ : ∃ K : ByteArray, durTL k = K.data.toList := ⟨⟨(durTL k).toArray⟩, by simp⟩
            have hKs := text_small hKT
            have HBk : Hid (durN K.data.toList = k ∧ durE K.data.toList = 0) := Lib.hid (by rw [← hKT]; exact dur_back kb1 kb2)
            have HK := Lib.hid hk
            have HKT := Lib.hid hKT
            clear hk hKT
            go_enter Tryd.func5, Tryd.ntmps5
            have b0 : Below w.heap.size w w := Below.refl _ _
            go_wp2_with fail
            refine (DText_q n T _ h1 h2 HT.out).mono ?_
            rintro e w1 ⟨rfl, hb⟩
            have b1 := belowNext b0 hb
            clear b0 hb
            go_wp2_with fail
            refine (DParse_q T n 0 _ hTs HB.out.1 HB.out.2).mono ?_
            rintro e w2 ⟨rfl, hb⟩
            have b2 := belowNext b1 hb
            clear b1 hb
            go_wp2_with fail
            refine (DParse_q s k 0 _ hs HK.out HE.out).mono ?_
            rintro e w3 ⟨rfl, hb⟩
            have b3 := belowNext b2 hb
            clear b2 hb
            go_wp2_with fail
            refine (DText_q k K _ k1 k2 HKT.out).mono ?_
            rintro e w4 ⟨rfl, hb⟩
            have b4 := belowNext b3 hb
            clear b3 hb
            go_wp2_with fail
            refine (DParse_q K k 0 _ hKs HBk.out.1 HBk.out.2).mono ?_
            rintro e w5 ⟨rfl, hb⟩
            have b5 := belowNext b4 hb
            clear b4 hb
            go_wp2_with fail
            refine (dawake_any _).mono ?_
            rintro e w6 ⟨rfl, hb⟩
            have b6 := belowNext b5 hb
            clear b5 hb
            go_wp2
            go_ret
            exact ⟨rfl, b6⟩
          · have HK := Lib.hid (durN_err hE)
            obtain ⟨f, hf⟩ : ∃ f, durE s.data.toList = f := ⟨_, rfl⟩
            have HE := Lib.hid hf
            have hf0 : (f == 0) = false := beq_eq_false_iff_ne.2 (by rw [← hf]; exact hE)
            have hf1 : ¬ f = 0 := by rw [← hf]; exact hE
            clear hE hf
            go_enter Tryd.func5, Tryd.ntmps5
            have b0 : Below w.heap.size w w := Below.refl _ _
            go_wp2_with fail
            refine (DText_q n T _ h1 h2 HT.out).mono ?_
            rintro e w1 ⟨rfl, hb⟩
            have b1 := belowNext b0 hb
            clear b0 hb
            go_wp2_with fail
            refine (DParse_q T n 0 _ hTs HB.out.1 HB.out.2).mono ?_
            rintro e w2 ⟨rfl, hb⟩
            have b2 := belowNext b1 hb
            clear b1 hb
            go_wp2_with fail
            refine (DParse_q s 0 f _ hs HK.out HE.out).mono ?_
            rintro e w3 ⟨rfl, hb⟩
            have b3 := belowNext b2 hb
            clear b2 hb
            go_wp2_with fail
            refine (dawake_any _).mono ?_
            rintro e w4 ⟨rfl, hb⟩
            have b4 := belowNext b3 hb
            clear b3 hb
            go_wp2
            go_ret
            exact ⟨rfl, b4⟩
    · have HB : Hid (durN T.data.toList = 0 ∧ durE T.data.toList = 3) := Lib.hid (by rw [← hT, dur_none (by omega)]; exact dur_nil)
      clear hT hM
      by_cases r0 : 0 ≤ n
      · have r1 : ¬ n ≤ 1099511627776 := fun hc => hr ⟨r0, hc⟩
        clear hr
        by_cases hE : durE s.data.toList = 0
        · have HE := Lib.hid hE
          clear hE
          obtain ⟨k, hk⟩ : ∃ k, durN s.data.toList = k := ⟨_, rfl⟩
          have kb := durN_bd s.data.toList
          rw [hk] at kb
          obtain ⟨kb1, kb2⟩ := kb
          have k1 : -9223372036854775808 ≤ k := by omega
          have k2 : k ≤ 9223372036854775807 := by omega
          obtain ⟨K, hKT⟩ : ∃ K : ByteArray, durTL k = K.data.toList := ⟨⟨(durTL k).toArray⟩, by simp⟩
          have hKs := text_small hKT
          have HBk : Hid (durN K.data.toList = k ∧ durE K.data.toList = 0) := Lib.hid (by rw [← hKT]; exact dur_back kb1 kb2)
          have HK := Lib.hid hk
          have HKT := Lib.hid hKT
          clear hk hKT
          go_enter Tryd.func5, Tryd.ntmps5
          have b0 : Below w.heap.size w w := Below.refl _ _
          go_wp2_with fail
          refine (DText_q n T _ h1 h2 HT.out).mono ?_
          rintro e w1 ⟨rfl, hb⟩
          have b1 := belowNext b0 hb
          clear b0 hb
          go_wp2_with fail
          refine (DParse_q T 0 3 _ hTs HB.out.1 HB.out.2).mono ?_
          rintro e w2 ⟨rfl, hb⟩
          have b2 := belowNext b1 hb
          clear b1 hb
          go_wp2_with fail
          refine (DParse_q s k 0 _ hs HK.out HE.out).mono ?_
          rintro e w3 ⟨rfl, hb⟩
          have b3 := belowNext b2 hb
          clear b2 hb
          go_wp2_with fail
          refine (DText_q k K _ k1 k2 HKT.out).mono ?_
          rintro e w4 ⟨rfl, hb⟩
          have b4 := belowNext b3 hb
          clear b3 hb
          go_wp2_with fail
          refine (DParse_q K k 0 _ hKs HBk.out.1 HBk.out.2).mono ?_
          rintro e w5 ⟨rfl, hb⟩
          have b5 := belowNext b4 hb
          clear b4 hb
          go_wp2_with fail
          refine (dawake_any _).mono ?_
          rintro e w6 ⟨rfl, hb⟩
          have b6 := belowNext b5 hb
          clear b5 hb
          go_wp2
          go_ret
          exact ⟨rfl, b6⟩
        · have HK := Lib.hid (durN_err hE)
          obtain ⟨f, hf⟩ : ∃ f, durE s.data.toList = f := ⟨_, rfl⟩
          have HE := Lib.hid hf
          have hf0 : (f == 0) = false := beq_eq_false_iff_ne.2 (by rw [← hf]; exact hE)
          have hf1 : ¬ f = 0 := by rw [← hf]; exact hE
          clear hE hf
          go_enter Tryd.func5, Tryd.ntmps5
          have b0 : Below w.heap.size w w := Below.refl _ _
          go_wp2_with fail
          refine (DText_q n T _ h1 h2 HT.out).mono ?_
          rintro e w1 ⟨rfl, hb⟩
          have b1 := belowNext b0 hb
          clear b0 hb
          go_wp2_with fail
          refine (DParse_q T 0 3 _ hTs HB.out.1 HB.out.2).mono ?_
          rintro e w2 ⟨rfl, hb⟩
          have b2 := belowNext b1 hb
          clear b1 hb
          go_wp2_with fail
          refine (DParse_q s 0 f _ hs HK.out HE.out).mono ?_
          rintro e w3 ⟨rfl, hb⟩
          have b3 := belowNext b2 hb
          clear b2 hb
          go_wp2_with fail
          refine (dawake_any _).mono ?_
          rintro e w4 ⟨rfl, hb⟩
          have b4 := belowNext b3 hb
          clear b3 hb
          go_wp2
          go_ret
          exact ⟨rfl, b4⟩
      · clear hr
        by_cases hE : durE s.data.toList = 0
        · have HE := Lib.hid hE
          clear hE
          obtain ⟨k, hk⟩ : ∃ k, durN s.data.toList = k := ⟨_, rfl⟩
          have kb := durN_bd s.data.toList
          rw [hk] at kb
          obtain ⟨kb1, kb2⟩ := kb
          have k1 : -9223372036854775808 ≤ k := by omega
          have k2 : k ≤ 9223372036854775807 := by omega
          obtain ⟨K, hKT⟩ : ∃ K : ByteArray, durTL k = K.data.toList := ⟨⟨(durTL k).toArray⟩, by simp⟩
          have hKs := text_small hKT
          have HBk : Hid (durN K.data.toList = k ∧ durE K.data.toList = 0) := Lib.hid (by rw [← hKT]; exact dur_back kb1 kb2)
          have HK := Lib.hid hk
          have HKT := Lib.hid hKT
          clear hk hKT
          go_enter Tryd.func5, Tryd.ntmps5
          have b0 : Below w.heap.size w w := Below.refl _ _
          go_wp2_with fail
          refine (DText_q n T _ h1 h2 HT.out).mono ?_
          rintro e w1 ⟨rfl, hb⟩
          have b1 := belowNext b0 hb
          clear b0 hb
          go_wp2_with fail
          refine (DParse_q T 0 3 _ hTs HB.out.1 HB.out.2).mono ?_
          rintro e w2 ⟨rfl, hb⟩
          have b2 := belowNext b1 hb
          clear b1 hb
          go_wp2_with fail
          refine (DParse_q s k 0 _ hs HK.out HE.out).mono ?_
          rintro e w3 ⟨rfl, hb⟩
          have b3 := belowNext b2 hb
          clear b2 hb
          go_wp2_with fail
          refine (DText_q k K _ k1 k2 HKT.out).mono ?_
          rintro e w4 ⟨rfl, hb⟩
          have b4 := belowNext b3 hb
          clear b3 hb
          go_wp2_with fail
          refine (DParse_q K k 0 _ hKs HBk.out.1 HBk.out.2).mono ?_
          rintro e w5 ⟨rfl, hb⟩
          have b5 := belowNext b4 hb
          clear b4 hb
          go_wp2_with fail
          refine (dawake_any _).mono ?_
          rintro e w6 ⟨rfl, hb⟩
          have b6 := belowNext b5 hb
          clear b5 hb
          go_wp2
          go_ret
          exact ⟨rfl, b6⟩
        · have HK := Lib.hid (durN_err hE)
          obtain ⟨f, hf⟩ : ∃ f, durE s.data.toList = f := ⟨_, rfl⟩
          have HE := Lib.hid hf
          have hf0 : (f == 0) = false := beq_eq_false_iff_ne.2 (by rw [← hf]; exact hE)
          have hf1 : ¬ f = 0 := by rw [← hf]; exact hE
          clear hE hf
          go_enter Tryd.func5, Tryd.ntmps5
          have b0 : Below w.heap.size w w := Below.refl _ _
          go_wp2_with fail
          refine (DText_q n T _ h1 h2 HT.out).mono ?_
          rintro e w1 ⟨rfl, hb⟩
          have b1 := belowNext b0 hb
          clear b0 hb
          go_wp2_with fail
          refine (DParse_q T 0 3 _ hTs HB.out.1 HB.out.2).mono ?_
          rintro e w2 ⟨rfl, hb⟩
          have b2 := belowNext b1 hb
          clear b1 hb
          go_wp2_with fail
          refine (DParse_q s 0 f _ hs HK.out HE.out).mono ?_
          rintro e w3 ⟨rfl, hb⟩
          have b3 := belowNext b2 hb
          clear b2 hb
          go_wp2_with fail
          refine (dawake_any _).mono ?_
          rintro e w4 ⟨rfl, hb⟩
          have b4 := belowNext b3 hb
          clear b3 hb
          go_wp2
          go_ret
          exact ⟨rfl, b4⟩
end Go.Proofs.YtegljoikdfjepaaDoor
