/- The contract of digit.MilliText. -/
import Derived.Test.YtioplkdmkdhnfaaDigText
namespace Go.Proofs.Ytioplkdmkdhnfaa
open Go.RowKit
open Dg
set_option linter.unusedVariables false

/-- The digits of a fraction of the given width, without the zeros at its end. -/
def stripL : Nat → Nat → List UInt8
  | 0, f => dgw 0 f
  | wd + 1, f => if f % 10 = 0 then stripL wd (f / 10) else dgw (wd + 1) f
theorem stripL_go {wd f : Nat} (h : f % 10 = 0) : stripL (wd + 1) f = stripL wd (f / 10) := if_pos h
theorem stripL_stop {wd f : Nat} (h : ¬ f % 10 = 0) : stripL (wd + 1) f = dgw (wd + 1) f := if_neg h
def milliL (n : Nat) : List UInt8 := if n % 1000 = 0 then dgw 1 (n / 1000) else dgw 1 (n / 1000) ++ 46 :: stripL 3 (n % 1000)
def milliTL (n : Int) : List UInt8 := if n < 0 then [] else milliL n.natAbs
theorem dgw_len_eq (wd n : Nat) (h : n < 10 ^ wd) : (dgw wd n).length = wd := by
  induction wd generalizing n with
  | zero => obtain rfl : n = 0 := by simpa using h
            rw [dgw_stop]; rfl
  | succ k ih =>
    rw [dgw_step (by omega), List.length_append]
    have := ih (n / 10) (by rw [Nat.pow_succ] at h; omega)
    simp; omega

/-- What the second put lays, ahead of what lay there. -/
theorem Laid.read2 {w w' : World} {b en a : Nat} {d : Array UInt8} {l : List UInt8} (h : Laid w w' b en a d l) (h0 : Sort.Holds encB w b 0 d) (t : List UInt8) (ht : l ++ d.toList.drop en = t) (ha : a + t.length = d.size) (i : Nat) (hi : i < t.length) :
    w'.cell? ⟨b, a + i, none⟩ = some (.int .u8 (t[i]'hi).toNat) := by
  obtain ⟨d', hs, hd, rfl⟩ := h.ex
  have := (Sort.holds_putRow encB w b 0 d d' h0 hs (a + i) (by omega)).1
  rw [Nat.zero_add] at this
  rw [this]
  have e : d'[a + i]! = t[i]'hi := by
    rw [getElem!_pos d' (a + i) (by omega)]
    have h1 : d'.toList[a + i]? = some (t[i]'hi) := by
      rw [← List.getElem?_drop, hd, ht, List.getElem?_eq_getElem hi]
    rw [Array.getElem?_toList, Array.getElem?_eq_getElem (by omega)] at h1
    exact Option.some.inj h1
  rw [e]; rfl
theorem Laid.holds {w w' : World} {b en a : Nat} {d : Array UInt8} {l : List UInt8} (h : Laid w w' b en a d l) (h0 : Sort.Holds encB w b 0 d) :
    ∃ d' : Array UInt8, d'.size = d.size ∧ d'.toList.drop a = l ++ d.toList.drop en ∧ Sort.Holds encB w' b 0 d' := by
  obtain ⟨d', hs, hd, rfl⟩ := h.ex
  exact ⟨d', hs, hd, Sort.holds_putRow encB w b 0 d d' h0 hs⟩

theorem enc_46 : encB 46 = .int .u8 46 := rfl
theorem first20 (w w1 : World) (h0 : Sort.Holds encB w1 w.heap.size 0 (Array.replicate 20 0)) (wd g : Nat) (i : Int) (hi : i = (wd : Int)) (hwd : wd ≤ 3) (hlen : (dgw wd g).length = wd) (hg : g < 18446744073709551616) :
    Calls Try.prog 17 #[.pointer (some ⟨w.heap.size, 0, none⟩), .int .i64 20, .int .i64 i, .int .u64 g] w1 fun e w' => ∃ a : Nat, e = .returned (.int .i64 ((a : Int) + 1)) ∧ a + 1 + wd = 20 ∧ Laid w1 w' w.heap.size 20 (a + 1) (Array.replicate 20 0) (dgw wd g) := by
  subst hi
  refine (put_any w.heap.size 20 wd g (Array.replicate 20 0) w1 h0 (by simp) (by omega) (by omega) hg (by omega)).mono ?_
  rintro e w' ⟨a, rfl, ha, hlaid⟩
  obtain ⟨a, rfl⟩ : ∃ a', a = a' + 1 := ⟨a - 1, by omega⟩
  exact ⟨a, by rw [Int.natCast_add]; rfl, by omega, hlaid⟩
theorem second20 (b a : Nat) (d : Array UInt8) (w1 : World) (h0 : Sort.Holds encB w1 b 0 d) (hd : d.size = 20) (ha : a ≤ 20) (m : Nat) (i : Int) (hi : i = (m : Int)) (hm : m < 18446744073709551616) (hl : (dgw 1 m).length ≤ a) :
    Calls Try.prog 17 #[.pointer (some ⟨b, 0, none⟩), .int .i64 a, .int .i64 1, .int .u64 i] w1 fun e w' => ∃ c : Nat, e = .returned (.int .i64 c) ∧ c + (dgw 1 m).length = a ∧ Laid w1 w' b a c d (dgw 1 m) := by
  subst hi
  exact put_any b a 1 m d w1 h0 hd ha (by omega) hm hl

set_option maxHeartbeats 1000000 in
theorem MilliText_any (n : Int) (w : World) (h1 : -9223372036854775808 ≤ n) (h2 : n ≤ 9223372036854775807) :
    Calls Try.prog 8 #[.int .i64 n] w fun e w' => e = .returned (.string ⟨(milliTL n).toArray⟩) ∧ Below w.heap.size w w' := by
  by_cases hneg : n < 0
  · have HT : Hid (milliTL n = []) := Lib.hid (by unfold milliTL; rw [if_pos hneg])
    go_enter Try.func8, Try.ntmps8
    go_wp2
    go_ret
    exact ⟨ret_l HT.out, Below.refl _ _⟩
  · obtain ⟨m, rfl⟩ := Int.eq_ofNat_of_zero_le (show 0 ≤ n by omega)
    have HT0 : Hid (milliTL (m : Int) = milliL m) := Lib.hid (by unfold milliTL; rw [if_neg hneg]; rfl)
    by_cases hz : m % 1000 = 0
    · have HT : Hid (textL ((m : Int) / 1000) = milliL m) := Lib.hid (by unfold milliL; rw [if_pos hz]; unfold textL; rw [if_neg (by omega)]; congr 1)
      have hz' : (m : Int) % 1000 = 0 := by omega
      go_enter Try.func8, Try.ntmps8
      go_wp2_with (go_at_call 6; refine (Text_any _ _ (by omega) (by omega)).mono ?_; rintro e w' ⟨rfl, hb⟩)
      go_ret
      exact ⟨ret_l (by rw [HT0.out, HT.out]), hb⟩
    · have HT : Hid (milliL m = dgw 1 (m / 1000) ++ 46 :: stripL 3 (m % 1000)) := Lib.hid (by unfold milliL; rw [if_neg hz])
      have hz' : ((m : Int) % 1000 == 0) = false := beq_eq_false_iff_ne.2 (by omega)
      have hf0 : 0 < m % 1000 := by omega
      have hf1 : m % 1000 < 1000 := by omega
      generalize hgf : m % 1000 = f at *
      have hgf' : (m : Int) % 1000 = (f : Int) := by omega
      clear hz
      rw [hgf'] at hz'
      have HG := Lib.hid hgf
      clear hgf
      go_enter Try.func8, Try.ntmps8
      go_wp2
      go_loop [4, 5] (fun sf sw => ∃ g wd : Nat, sf = .int .i64 g ∧ sw = .int .i64 wd ∧ 0 < g ∧ wd ≤ 3 ∧ g < 10 ^ wd ∧ stripL wd g = stripL 3 f) (fun sf _ => (intOf sf).toNat)
      case atStart => exact ⟨f, 3, rfl, rfl, hf0, by omega, by omega, rfl⟩
      case round =>
        obtain ⟨g, wd, rfl, rfl, hg0, hwd, hg1, hst⟩ := hrel
        obtain ⟨wd, rfl⟩ : ∃ wd', wd = wd' + 1 := ⟨wd - 1, by
          rcases Nat.eq_zero_or_pos wd with rfl | h
          · simp at hg1; omega
          · omega⟩
        have hg3 : (g : Int) ≤ 999 := by
          have : 10 ^ (wd + 1) ≤ 10 ^ 3 := Nat.pow_le_pow_right (by omega) hwd
          omega
        have hg4 : (0 : Int) < (g : Int) := by omega
        have HP := Lib.hid hg1
        clear hg1
        by_cases hgz : g % 10 = 0
        · have hgz' : (g : Int) % 10 = 0 := by omega
          rw [stripL_go hgz] at hst
          have HS := Lib.hid hst
          clear hst
          go_wp2
          go_round
          case rel => exact ⟨g / 10, wd, by go_num, rfl, by omega, by omega, by have := HP.out; rw [Nat.pow_succ] at this; omega, HS.out⟩
          case measure => simp [intOf]; omega
        · have hgz' : ((g : Int) % 10 == 0) = false := beq_eq_false_iff_ne.2 (by omega)
          rw [stripL_stop hgz] at hst
          have HS := Lib.hid hst
          clear hst
          have hlen := dgw_len_eq (wd + 1) g HP.out
          have HLn := Lib.hid hlen
          have hl1 := dgw_len 1 (m / 1000) 16 (by omega) (by omega)
          clear hlen
          go_wp2_with fail
          refine (first20 w _ (holds_new w _) (wd + 1) g _ (by omega) hwd HLn.out (by omega)).mono ?_
          rintro e w' ⟨a, rfl, ha, hlaid⟩
          have hle : (a : Int) ≤ 20 := by omega
          have hlt : a < 20 := by omega
          obtain ⟨⟨x, hx⟩, hfz⟩ := hlaid.cells (holds_new w _) a (by simp; omega)
          have hl2 := hlaid.store 46 (by simp; omega)
          rw [enc_46] at hl2
          have hb2 := Below.laid hl2 ((Below.refl _ _).alloc (Nat.le_refl _) _)
          obtain ⟨d2, hs2, hd2, hh2⟩ := hl2.holds (holds_new w _)
          have hs20 : d2.size = 20 := by rw [hs2]; simp
          have hd2' : d2.toList.drop a = 46 :: dgw (wd + 1) g := by rw [hd2]; simp
          have HA := Lib.hid ha
          have HS2 := Lib.hid hs20
          have HD2 := Lib.hid hd2'
          clear ha hs2 hd2 hl2 hlaid hs20 hd2'
          go_wp2_with fail
          refine (second20 _ a d2 _ hh2 HS2.out (by omega) (m / 1000) _ (by omega) (by omega) (by have := HA.out; omega)).mono ?_
          rintro e w'' ⟨c, rfl, hc, hlaid⟩
          have hcv := conv_read (cap := 20 - c) (fun i hi => hlaid.read2 hh2 (dgw 1 (m / 1000) ++ 46 :: dgw (wd + 1) g) (by rw [HD2.out]) (by have := HA.out; have := HLn.out; have := HS2.out; simp; omega) i hi) (show (dgw 1 (m / 1000) ++ 46 :: dgw (wd + 1) g).length = 20 - c by have := HA.out; have := HLn.out; simp; omega)
          have hle : (c : Int) ≤ 20 := by omega
          have hne : ¬ (20 = c) := by omega
          clear hc
          go_wp2
          go_ret
          refine ⟨ret_l (by rw [HT0.out, HT.out, HS.out]), Below.laid hlaid hb2⟩
end Go.Proofs.Ytioplkdmkdhnfaa
