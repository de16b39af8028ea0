/- The reference's Bare. -/
import Derived.Test.YtfafoognjodeiaaDoorRefWrd1
namespace Go.Proofs.YtfafoognjodeiaaDoor
open Go.RowKit Go.Sort
open Nw W15
set_option linter.unusedVariables false
def moreL : L8 := [46, 95, 45, 47, 58, 61, 44, 43, 64, 37]
def alnC (c : UInt8) : Bool := (97 ≤ c && c ≤ 122) || (65 ≤ c && c ≤ 90) || (48 ≤ c && c ≤ 57)
theorem bare_split (c : UInt8) : bareC c = (alnC c || moreL.contains c) := rfl
theorem le_iffW (a b : UInt8) : (a ≤ b) ↔ ((a.toNat : Int) ≤ (b.toNat : Int)) := by rw [UInt8.le_iff_toNat_le]; omega
/-- Where a byte stands. -/
theorem clsW (c : UInt8) : alnC c = ((decide ((97 : Int) ≤ (c.toNat : Int)) && decide ((c.toNat : Int) ≤ 122)) || (decide ((65 : Int) ≤ (c.toNat : Int)) && decide ((c.toNat : Int) ≤ 90)) || (decide ((48 : Int) ≤ (c.toNat : Int)) && decide ((c.toNat : Int) ≤ 57))) := by
  unfold alnC
  have h : ∀ a b : UInt8, decide (a ≤ b) = decide ((a.toNat : Int) ≤ (b.toNat : Int)) := fun a b => decide_eq_decide.2 (le_iffW a b)
  rw [h, h, h, h, h, h]
  rfl
theorem bareB_no {s : L8} {k : Nat} (h : k < s.length) (hb : bareC (s[k]'h) = false) : bareB s = false := by
  unfold bareB
  rw [Bool.and_eq_false_iff]
  right
  rw [List.all_eq_false]
  exact ⟨_, List.getElem_mem h, by rw [hb]; exact Bool.false_ne_true⟩
theorem bareB_yes {s : L8} (h : s.all bareC = true) : bareB s = decide (0 < s.length) := by
  unfold bareB
  rw [h, Bool.and_true]
  cases s <;> simp
theorem all_take {s : L8} {k : Nat} (h : k < s.length) (ha : (s.take k).all bareC = true) (hb : bareC (s[k]'h) = true) : (s.take (k + 1)).all bareC = true := by
  rw [List.take_succ_eq_append_getElem h, List.all_append, ha, List.all_cons, hb, List.all_nil]; rfl
set_option maxRecDepth 100000 in
set_option maxHeartbeats 16000000 in
theorem RBare_any (s : ByteArray) (w : World) (hs : s.size ≤ 1000000) :
    Calls Tryd.prog 11 #[.string s] w fun e w' => e = .returned (.bool (bareB s.data.toList)) ∧ w' = w := by
  obtain ⟨n, hn⟩ : ∃ n, s.size = n := ⟨_, rfl⟩
  have hn1 : n ≤ 1000000 := by omega
  obtain ⟨MO, hMO⟩ : ∃ MO : ByteArray, (⟨#[46, 95, 45, 47, 58, 61, 44, 43, 64, 37]⟩ : ByteArray) = MO := ⟨_, rfl⟩
  have hm10 : MO.size = 10 := by rw [← hMO]; rfl
  have HMO : Hid (MO.data.toList = moreL) := Lib.hid (by rw [← hMO]; rfl)
  obtain ⟨R, hR⟩ : ∃ R, bareB s.data.toList = R := ⟨_, rfl⟩
  have HR := Lib.hid hR
  rw [hR]
  clear hR
  go_enter Tryd.func11, Tryd.ntmps11
  go_wp2
  rw [hMO]
  clear hMO
  go_loopw [4, 5, 6, 7] (fun si s5 s6 s7 wr => ∃ k : Nat, k ≤ n ∧ si = .int .i64 (k : Int) ∧ wr = w ∧ Hid ((s.data.toList.take k).all bareC = true)) (fun si _ _ _ _ => n - (intOf si).toNat)
  case atStart => exact ⟨0, Nat.zero_le _, rfl, rfl, Lib.hid rfl⟩
  case round =>
    obtain ⟨k, hk, rfl, rfl, HA⟩ := hrel
    obtain ⟨w0, hw0⟩ : ∃ w0, w0 = wr := ⟨_, rfl⟩
    subst hw0
    by_cases hlt : k < n
    · have hks : k < s.size := by omega
      have hkl : Hid (k < s.data.toList.length) := Lib.hid hks
      have hkz : (k : Int) < (n : Int) := by omega
      obtain ⟨c, hc⟩ : ∃ c, s[k]'hks = c := ⟨_, rfl⟩
      have HC : Hid (s.data.toList[k]'hkl.out = c) := Lib.hid hc
      have kw : IntKind.i64.wrap ((k : Int) + 1) = (k : Int) + 1 := IntWalk.i64_in _ (by omega)
      have hcls := clsW c
      by_cases h1 : (97 : Int) ≤ (c.toNat : Int) <;> by_cases h2 : (c.toNat : Int) ≤ 122 <;> by_cases h3 : (65 : Int) ≤ (c.toNat : Int) <;> by_cases h4 : (c.toNat : Int) ≤ 90 <;> by_cases h5 : (48 : Int) ≤ (c.toNat : Int) <;> by_cases h6 : (c.toNat : Int) ≤ 57
      all_goals first
        | (exfalso; omega)
        | (have HB : Hid ((alnC c || (moreL.drop 0).contains c) = bareC c) := Lib.hid rfl
           rw [hcls] at HB
           simp only [h1, h2, h3, h4, h5, h6, decide_true, decide_false, Bool.and_true, Bool.and_false, Bool.true_and, Bool.false_and, Bool.or_true, Bool.or_false, Bool.true_or, Bool.false_or] at HB
           clear hcls
           go_wp2
           go_loopw [6, 7] (fun s6 s7 wr => ∃ (m : Nat) (b : Bool), m ≤ 10 ∧ s7 = .int .i64 (m : Int) ∧ s6 = .bool b ∧ wr = w0 ∧ Hid ((b || (moreL.drop m).contains c) = bareC c)) (fun _ s7 _ => 10 - (intOf s7).toNat)
           case atStart => exact ⟨0, _, Nat.zero_le _, rfl, rfl, rfl, by first | exact HB | (refine Lib.hid ?_; rw [← HB.out]; first | rfl | simp)⟩
           case round =>
             clear HB
             obtain ⟨m, b, hm, rfl, rfl, rfl, HB⟩ := hrel
             have mw : IntKind.i64.wrap ((m : Int) + 1) = (m : Int) + 1 := IntWalk.i64_in _ (by omega)
             by_cases hlm : m < 10
             · have hmz : (m : Int) < 10 := by omega
               have hmz2 : (m : Int) < (MO.size : Int) := by omega
               have hms : m < MO.size := by omega
               cases b with
               | true =>
                 have HN : Hid ((true || (moreL.drop (m + 1)).contains c) = bareC c) := Lib.hid (by rw [← HB.out]; rfl)
                 clear HB
                 go_wp2
                 go_roundw
                 case rel => exact ⟨m + 1, true, by omega, by go_num, rfl, trivial, HN⟩
                 case measure => simp [intOf]; omega
               | false =>
                 obtain ⟨x, hx⟩ : ∃ x, MO[m]'hms = x := ⟨_, rfl⟩
                 obtain ⟨b3, hb3⟩ : ∃ b3, ((x.toNat : Int) == (c.toNat : Int)) = b3 := ⟨_, rfl⟩
                 have HN : Hid ((b3 || (moreL.drop (m + 1)).contains c) = bareC c) := Lib.hid (by
                   rw [← HB.out, ← HMO.out, drop_cW MO m hms, hx, List.contains_cons, Bool.false_or]
                   congr 1
                   rw [← hb3]
                   by_cases hxc : x = c
                   · rw [u8_tW hxc, hxc]; exact (beq_self_eq_true _).symm
                   · rw [u8_fW hxc]; exact (beq_eq_false_iff_ne.2 (Ne.symm hxc)).symm)
                 clear HB
                 cases b3 <;> (
                   go_wp2
                   go_roundw
                   case rel => exact ⟨m + 1, _, by omega, by go_num, rfl, trivial, HN⟩
                   case measure => simp [intOf]; omega)
             · obtain rfl : m = 10 := by omega
               cases b with
               | true =>
                 have HN : Hid ((s.data.toList.take (k + 1)).all bareC = true) := Lib.hid (all_take hkl.out HA.out (by rw [HC.out, ← HB.out]; rfl))
                 clear HB
                 go_wp2
                 go_roundw
                 case rel => exact ⟨k + 1, by omega, by go_num, trivial, HN⟩
                 case measure => simp [intOf]; omega
               | false =>
                 have HE : Hid (R = false) := Lib.hid (by rw [← HR.out]; exact bareB_no hkl.out (by rw [HC.out, ← HB.out]; rfl))
                 clear HB
                 go_wp2
                 go_ret
                 exact ⟨by rw [HE.out]; rfl, rfl⟩)
    · obtain rfl : k = n := by omega
      have HE : Hid (R = decide (0 < k)) := Lib.hid (by
        rw [← HR.out]
        have h9 := HA.out
        rw [List.take_of_length_le (by show s.size ≤ k; omega)] at h9
        rw [bareB_yes h9]
        congr 1
        show (0 < s.size) = (0 < k); rw [hn])
      by_cases hz : 0 < k
      · have hzz : (0 : Int) < (k : Int) := by omega
        go_wp2
        go_ret
        exact ⟨by rw [HE.out]; simp [hz], rfl⟩
      · obtain rfl : k = 0 := by omega
        go_wp2
        go_ret
        exact ⟨by rw [HE.out]; rfl, rfl⟩
end Go.Proofs.YtfafoognjodeiaaDoor
