/- The contract of digit.put. -/
import Derived.Test.YtkgfinhepbipeaaDoorDigWalk1
import Derived.Sort.Row
import Derived.Below
namespace Go.Proofs.YtkgfinhepbipeaaDoor
open Go.RowKit
open Dg
set_option linter.unusedVariables false

/-- The digits of a number with zeros ahead of them up to a width. -/
def dgw (wd n : Nat) : List UInt8 := if n = 0 ∧ wd = 0 then [] else dgw (wd - 1) (n / 10) ++ [UInt8.ofNat (48 + n % 10)]
termination_by n + wd
decreasing_by
  rename_i h
  by_cases h0 : n = 0
  · subst h0
    have : 0 < wd := by omega
    simp; omega
  · have := Nat.div_lt_self (Nat.pos_of_ne_zero h0) (show 1 < 10 by decide)
    omega
theorem dgw_stop : dgw 0 0 = [] := by rw [dgw]; simp
theorem dgw_step {wd n : Nat} (h : ¬ (n = 0 ∧ wd = 0)) : dgw wd n = dgw (wd - 1) (n / 10) ++ [UInt8.ofNat (48 + n % 10)] := by
  rw [dgw, if_neg h]

def encB (c : UInt8) : Value := .int .u8 (c.toNat : Int)
theorem encB_digit (m : Nat) : encB (UInt8.ofNat (48 + m % 10)) = .int .u8 (48 + (m : Int) % 10) := by
  unfold encB
  congr 1
  rw [UInt8.toNat_ofNat']
  omega
/-- The state of put's array behind some rounds: from 'at' on lie the digits that have been made. -/
structure Laid (w w' : World) (b en a : Nat) (d : Array UInt8) (l : List UInt8) : Prop where
  ex : ∃ d' : Array UInt8, d'.size = d.size ∧ d'.toList.drop a = l ++ d.toList.drop en ∧ w' = Sort.putRow encB w b 0 d'
theorem Laid.start {w : World} {b en : Nat} {d : Array UInt8} (h : Sort.Holds encB w b 0 d) : Laid w w b en en d [] :=
  ⟨d, rfl, rfl, (Sort.putRow_self _ _ _ _ _ h).symm⟩
theorem drop_set (L : List UInt8) (a : Nat) (c : UInt8) (h : a < L.length) : (L.set a c).drop a = c :: L.drop (a + 1) := by
  rw [List.drop_eq_getElem_cons (by simpa using h)]
  simp [List.drop_set]
theorem Laid.cells {w w' : World} {b en a : Nat} {d : Array UInt8} {l : List UInt8} (h : Laid w w' b en a d l) (h0 : Sort.Holds encB w b 0 d) (k : Nat) (hk : k < d.size) :
    (∃ x : Int, w'.cell? ⟨b, k, none⟩ = some (.int .u8 x)) ∧ w'.frozen? ⟨b, k, none⟩ = false := by
  obtain ⟨d', hs, _, rfl⟩ := h.ex
  have := Sort.holds_putRow encB w b 0 d d' h0 hs k (by omega)
  rw [Nat.zero_add] at this
  exact ⟨⟨_, this.1⟩, this.2⟩
theorem Laid.store {w w' : World} {b en a : Nat} {d : Array UInt8} {l : List UInt8} (h : Laid w w' b en (a + 1) d l) (c : UInt8) (ha : a < d.size) :
    Laid w (w'.setCell ⟨b, a, none⟩ (encB c)) b en a d (c :: l) := by
  obtain ⟨d', hs, hd, rfl⟩ := h.ex
  refine ⟨d'.setIfInBounds a c, by simpa using hs, ?_, ?_⟩
  · rw [Array.toList_setIfInBounds, drop_set _ _ _ (by simpa [hs] using ha), hd]; rfl
  · have := Sort.putRow_set encB w b 0 d' a c (by omega)
    rw [Nat.zero_add] at this
    exact this

set_option maxHeartbeats 1000000 in
theorem put_any (b en wd n : Nat) (d : Array UInt8) (w : World) (h0 : Sort.Holds encB w b 0 d) (hd : d.size = 20) (hen : en ≤ 20) (hwd : wd ≤ 20) (hn : n < 18446744073709551616) (hl : (dgw wd n).length ≤ en) :
    Calls Tryd.prog 42 #[.pointer (some ⟨b, 0, none⟩), .int .i64 en, .int .i64 wd, .int .u64 n] w fun e w' => ∃ a : Nat, e = .returned (.int .i64 a) ∧ a + (dgw wd n).length = en ∧ Laid w w' b en a d (dgw wd n) := by
  go_enter Tryd.func42, Tryd.ntmps42
  go_wp2
  go_loopw [3, 9] (fun sn sa w' => ∃ m a : Nat, ∃ l : List UInt8, sn = .int .u64 m ∧ sa = .int .i64 a ∧ m < 18446744073709551616 ∧ a + l.length = en ∧ (dgw (wd - (en - a)) m).length ≤ a ∧ dgw (wd - (en - a)) m ++ l = dgw wd n ∧ Laid w w' b en a d l) (fun sn sa _ => (intOf sn).toNat + (wd - (en - (intOf sa).toNat)))
  case atStart => exact ⟨n, en, [], rfl, rfl, hn, rfl, by simpa using hl, by simp, Laid.start h0⟩
  case round =>
    obtain ⟨m, a, l, rfl, rfl, hm, ha, hla, hdg, hlaid⟩ := hrel
    by_cases hgo : m = 0 ∧ wd - (en - a) = 0
    · obtain ⟨rfl, hw0⟩ := hgo
      have hw1 : ¬ ((en : Int) - (a : Int) < (wd : Int)) := by omega
      have HD : Hid (dgw wd n = l) := Lib.hid (by rw [← hdg, hw0, dgw_stop]; rfl)
      clear hdg hla
      go_wp2
      go_ret
      have hL := HD.out
      subst hL
      exact ⟨a, rfl, ha, hlaid⟩
    · have hst := dgw_step hgo
      obtain ⟨a, rfl⟩ : ∃ a', a = a' + 1 := by
        rw [hst, List.length_append] at hla
        exact ⟨a - 1, by simp at hla; omega⟩
      have hc := hlaid.cells h0 a (by omega)
      obtain ⟨⟨x, hx⟩, hfz⟩ := hc
      by_cases hm0 : m = 0
      · subst hm0
        have hw1 : ((en : Int) - ((a + 1 : Nat) : Int) < (wd : Int)) := by omega
        have e1 : wd - (en - (a + 1)) - 1 = wd - (en - a) := by omega
        have HS := Lib.hid hst
        have HW := Lib.hid e1
        clear hst e1
        go_wp2
        go_roundw
        case rel =>
          have hst := HS.out
          rw [HW.out] at hst
          refine ⟨0, a, UInt8.ofNat (48 + 0 % 10) :: l, rfl, rfl, hm, by simp; omega, ?_, ?_, ?_⟩
          · rw [hst, List.length_append] at hla; simpa using hla
          · rw [← hdg, hst]; simp
          · have := hlaid.store (UInt8.ofNat (48 + 0 % 10)) (by omega)
            rw [encB_digit 0] at this
            exact this
        case measure => simp [intOf]; omega
      · have hw1 : (0 : Int) < (m : Int) := by omega
        have e1 : wd - (en - (a + 1)) - 1 = wd - (en - a) := by omega
        have HS := Lib.hid hst
        have HW := Lib.hid e1
        clear hst e1
        go_wp2
        go_roundw
        case rel =>
          have hst := HS.out
          rw [HW.out] at hst
          refine ⟨m / 10, a, UInt8.ofNat (48 + m % 10) :: l, by go_num, rfl, by omega, by simp; omega, ?_, ?_, ?_⟩
          · rw [hst, List.length_append] at hla; simpa using hla
          · rw [← hdg, hst]; simp
          · have := hlaid.store (UInt8.ofNat (48 + m % 10)) (by omega)
            rw [encB_digit] at this
            exact this
        case measure => 
          have := Nat.div_lt_self (Nat.pos_of_ne_zero hm0) (show 1 < 10 by decide)
          simp [intOf]; omega
end Go.Proofs.YtkgfinhepbipeaaDoor
