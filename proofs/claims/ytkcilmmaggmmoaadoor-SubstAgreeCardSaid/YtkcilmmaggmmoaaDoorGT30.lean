/- RefEnv1, RefEnv2 -/
import Derived.ChangeAlike
import Derived.RegionTactic
import Derived.Test.YtkcilmmaggmmoaaDoorGT12
set_option linter.unusedVariables false
set_option linter.unusedSimpArgs false
set_option maxRecDepth 100000
set_option maxHeartbeats 16000000
open Go.Lib (hid)
namespace Go.Proofs.YtkcilmmaggmmoaaDoor
namespace Nw
end Nw
namespace V12
end V12
end Go.Proofs.YtkcilmmaggmmoaaDoor
namespace Go.Proofs.YtkcilmmaggmmoaaDoor
section
open Go.RowKit Go.Sort
open Nw V12
theorem last_at {l : List KV} {k : L8} {m : Nat} (h : m < l.length) (he : (l[m]'h).1 = k) (hb : ∀ j (hj : j < l.length), m < j → (l[j]'hj).1 ≠ k) : lastV l k = some (l[m]'h).2 := by
 have e : l = l.take m ++ l[m]'h :: l.drop (m + 1) := by rw [← List.drop_eq_getElem_cons h, List.take_append_drop]
 have hd : lastV (l.drop (m + 1)) k = none := last_none fun p hp => by
  obtain ⟨j, hj, rfl⟩ := List.getElem_of_mem hp
  rw [List.length_drop] at hj
  rw [List.getElem_drop]
  exact hb _ _ (by omega)
 have h1 : lastV (l[m]'h :: l.drop (m + 1)) k = some (l[m]'h).2 := by
  show (match lastV (l.drop (m + 1)) k with | some v => some v | none => if (l[m]'h).1 = k then some (l[m]'h).2 else none) = _
  rw [hd, if_pos he]
 have h2 := last_app (l.take m) (l[m]'h :: l.drop (m + 1)) k
 rw [← e, h1] at h2
 exact h2
theorem last_no {l : List KV} {k : L8} (hb : ∀ j (hj : j < l.length), (l[j]'hj).1 ≠ k) : lastV l k = none := last_none fun p hp => by
 obtain ⟨j, hj, rfl⟩ := List.getElem_of_mem hp
 exact hb j hj
def gotV (l : List KV) (k : L8) : ByteArray := ba ((lastV l k).getD [])
def gotB (l : List KV) (k : L8) : Bool := (lastV l k).isSome
theorem ret_got {l : List KV} {k : L8} {v : ByteArray} {b : Bool} (h : gotV l k = v) (h2 : gotB l k = b) : Ending.returned (.tuple #[.string v, .bool b]) = Ending.returned (.tuple #[.string (gotV l k), .bool (gotB l k)]) := by rw [h, h2]
theorem RLast_any (v : Value) (l : List KV) (s : ByteArray) (w : World) (h : VR w v l) :
  Calls Tryd.prog 29 #[v, .string s] w fun e w' => e = .returned (.tuple #[.string (gotV l s.data.toList), .bool (gotB l s.data.toList)]) ∧ w' = w := by
 obtain ⟨a, cap, rfl, h1, h2, h3⟩ := h
 unfold maxLen at h2
 obtain ⟨n, hn⟩ : ∃ n, n = l.length := ⟨_, rfl⟩
 have HN : Hid (n = l.length) := hid hn
 rw [← hn] at h1 ⊢
 clear hn
 go_enter Tryd.func29, Tryd.ntmps29
 go_wp2
 go_loopw [6] (fun i wr => ∃ z : Int, -1 ≤ z ∧ z < n ∧ i = .int .i64 z ∧ (∀ (j : Nat) (hj : j < l.length), z < j → (l[j]'hj).1 ≠ s.data.toList) ∧ wr = w) (fun i _ => (intOf i + 1).toNat)
 case atStart => exact ⟨(n : Int) - 1, by omega, by omega, by go_num, fun j hj hz => by have := HN.out; omega, rfl⟩
 case round =>
  obtain ⟨z, hz1, hz2, rfl, hall, hwr⟩ := hrel
  subst hwr
  have HA := hid hall; clear hall
  by_cases hz : z < 0
  ·have hz' : ¬ (0 : Int) ≤ z := by omega
   go_wp2
   go_ret2
   have e : lastV l s.data.toList = none := last_no fun j hj => HA.out j hj (by omega)
   exact ⟨ret_got (by unfold gotV; rw [e]; rfl) (by unfold gotB; rw [e]; rfl), rfl⟩
  ·obtain ⟨m, rfl⟩ : ∃ m : Nat, z = (m : Int) := ⟨z.toNat, by omega⟩
   have hm : Hid (m < l.length) := hid (by have := HN.out; omega)
   rcases h3 with ⟨rfl, _⟩ | ⟨b, o, rfl, h4, h5⟩
   ·exact absurd hm.out (Nat.not_lt_zero _)
   have hc := (h5 m hm.out).1
   have hd := (h5 m hm.out).2
   clear h5
   have hge : (0 : Int) ≤ (m : Int) := by omega
   by_cases he : (l[m]'hm.out).1 = s.data.toList
   ·have HE := hid he
    have b1 := str_eq_true he
    clear he
    obtain ⟨x, hx⟩ : ∃ x, x = ba (l[m]'hm.out).1 := ⟨_, rfl⟩
    obtain ⟨y, hy⟩ : ∃ y, y = ba (l[m]'hm.out).2 := ⟨_, rfl⟩
    rw [← hx] at hc b1
    rw [← hy] at hd
    have HY := hid hy
    clear hx hy
    go_wp2
    go_ret2
    have e := last_at hm.out HE.out fun j hj hlt => HA.out j hj (by omega)
    exact ⟨ret_got (by unfold gotV; rw [e, HY.out]; rfl) (by unfold gotB; rw [e]; rfl), rfl⟩
   ·have HE := hid he
    have b1 := str_eq_false he
    clear he
    generalize ba (l[m]'hm.out).1 = x at hc b1
    clear hd
    go_wp2
    go_roundw
    case rel =>
     refine ⟨(m : Int) - 1, by omega, by omega, by go_num, fun j hj hlt => ?_, trivial⟩
     by_cases hjm : j = m
     ·subst hjm; exact HE.out
     ·exact HA.out j hj (by omega)
    case measure => simp [intOf]
end
section
open Go.RowKit Go.Sort
open Nw V12
theorem ret_bl {a b : Bool} (h : a = b) : Ending.returned (.bool a) = .returned (.bool b) := by rw [h]
def fewV (l : List KV) (n : Int) : Prop := (l.length : Int) ≤ n ∧ ∀ p ∈ l, p.1.length ≤ 100 ∧ p.2.length ≤ 100
instance (l : List KV) (n : Int) : Decidable (fewV l n) := by unfold fewV; infer_instance
theorem ba_size (x : L8) : (ba x).size = x.length := by simp [ba, ByteArray.size]
theorem Few12_any (v : Value) (l : List KV) (n : Int) (w : World) (h : VR w v l) (hok : KVok l) :
  Calls Tryd.prog 5 #[v, .int .i64 n] w fun e w' => e = .returned (.bool (decide (fewV l n))) ∧ w' = w := by
 obtain ⟨a, cap, rfl, h1, h2, h3⟩ := h
 unfold maxLen at h2
 by_cases hlen : (l.length : Int) ≤ n
 ·obtain ⟨N, hn⟩ : ∃ N, N = l.length := ⟨_, rfl⟩
  have HN : Hid (N = l.length) := hid hn
  rw [← hn] at h1 hlen ⊢
  clear hn
  have hnl : ¬ n < (N : Int) := by omega
  go_enter Tryd.func5, Tryd.ntmps5
  go_wp2
  go_loopw [5] (fun i wr => ∃ k : Nat, k ≤ N ∧ i = .int .i64 k ∧ (∀ j (hj : j < l.length), j < k → (l[j]'hj).1.length ≤ 100 ∧ (l[j]'hj).2.length ≤ 100) ∧ wr = w) (fun i _ => N - (intOf i).toNat)
  case atStart => exact ⟨0, Nat.zero_le _, rfl, fun j _ h => absurd h (Nat.not_lt_zero _), rfl⟩
  case round =>
   obtain ⟨k, hk, rfl, hall, hwr⟩ := hrel
   subst hwr
   have HA := hid hall; clear hall
   by_cases hlt : k < N
   ·have hl : Hid (k < l.length) := hid (by have := HN.out; omega)
    rcases h3 with ⟨rfl, _⟩ | ⟨b, o, rfl, h4, h5⟩
    ·exact absurd hl.out (Nat.not_lt_zero _)
    have hc := (h5 k hl.out).1
    have hd := (h5 k hl.out).2
    clear h5
    have hltz : (k : Int) < (N : Int) := by omega
    have HX : Hid ((ba (l[k]'hl.out).1).size = (l[k]'hl.out).1.length ∧ (ba (l[k]'hl.out).2).size = (l[k]'hl.out).2.length) := hid ⟨ba_size _, ba_size _⟩
    have hbx : (ba (l[k]'hl.out).1).size ≤ maxLen ∧ (ba (l[k]'hl.out).2).size ≤ maxLen := by
     rw [ba_size, ba_size]; exact hok _ (List.getElem_mem hl.out)
    unfold maxLen at hbx
    obtain ⟨hb1, hb2⟩ := hbx
    have hno : Hid (¬ ((l[k]'hl.out).1.length ≤ 100 ∧ (l[k]'hl.out).2.length ≤ 100) → decide (fewV l n) = false) := hid fun h => decide_eq_false fun e => h (e.2 _ (List.getElem_mem hl.out))
    generalize ba (l[k]'hl.out).1 = x at hc HX hb1
    generalize ba (l[k]'hl.out).2 = y at hd HX hb2
    clear hok
    by_cases hx : (100 : Int) < (x.size : Int)
    ·have hx2 : decide ((100 : Int) < (x.size : Int)) = true := decide_eq_true hx
     go_wp2
     go_ret
     exact ⟨ret_bl (hno.out fun e => by have := HX.out.1; omega).symm, rfl⟩
    ·have hx2 : decide ((100 : Int) < (x.size : Int)) = false := decide_eq_false hx
     by_cases hy : (100 : Int) < (y.size : Int)
     ·go_wp2
      go_ret
      exact ⟨ret_bl (hno.out fun e => by have := HX.out.2; omega).symm, rfl⟩
     ·go_wp2
      go_roundw
      case rel =>
       refine ⟨k + 1, by omega, by go_num, fun j hj hjk => ?_, trivial⟩
       rcases Nat.lt_succ_iff_lt_or_eq.1 hjk with h | rfl
       ·exact HA.out j hj h
       ·have := HX.out; exact ⟨by omega, by omega⟩
      case measure => simp [intOf]; omega
   ·go_wp2
    go_ret
    refine ⟨ret_bl (decide_eq_true ⟨by have := HN.out; omega, fun p hp => ?_⟩).symm, rfl⟩
    obtain ⟨j, hj, rfl⟩ := List.getElem_of_mem hp
    exact HA.out j hj (by have := HN.out; omega)
 ·have H : Hid (¬ fewV l n) := hid fun e => hlen e.1
  have hz : n < (l.length : Int) := by omega
  go_enter Tryd.func5, Tryd.ntmps5
  go_wp2
  go_ret
  exact ⟨ret_bl (decide_eq_false H.out).symm, rfl⟩
end
end Go.Proofs.YtkcilmmaggmmoaaDoor
