/- RefEnv2 -/
import Derived.Test.YtgdejjkiiaodkaaGreatDoorPT8
set_option linter.unusedVariables false
set_option linter.unusedSimpArgs false
set_option maxRecDepth 100000
set_option maxHeartbeats 16000000
open Go.Lib (hid)
namespace Go.Proofs.YtgdejjkiiaodkaaGreatDoor
section
open Go.RowKit Go.Sort
open Nw V12
theorem ret_bl {a b : Bool} (h : a = b) : Ending.returned (.bool a) = .returned (.bool b) := by rw [h]
theorem ba_ne {x y : L8} (h : x ≠ y) : ((ba x).toList == (ba y).toList) = false := by rw [ba_list, ba_list]; exact beq_eq_false_iff_ne.2 h
theorem ba_same {x : ByteArray} : (x.toList == x.toList) = true := beq_self_eq_true _
theorem RSame12_any (v u : Value) (l m : List KV) (w : World) (h : VR w v l) (k : VR w u m) :
  Calls Tryz.prog 11 #[v, u] w fun e w' => e = .returned (.bool (decide (l = m))) ∧ Below w.heap.size w w' := by
 obtain ⟨a, cap, rfl, h1, h2, h3⟩ := h
 obtain ⟨a2, cap2, rfl, k1, k2, k3⟩ := k
 unfold maxLen at h2 k2
 by_cases hlen : l.length = m.length
 ·obtain ⟨n, hn⟩ : ∃ n, n = l.length := ⟨_, rfl⟩
  have hm : n = m.length := by omega
  have HN : Hid (n = l.length ∧ n = m.length) := hid ⟨hn, hm⟩
  rw [← hn, ← hm]
  rw [← hn] at h1
  rw [← hm] at k1
  clear hn hm hlen
  go_enter Tryz.func11, Tryz.ntmps11
  go_wp2
  go_loopw [5] (fun i wr => ∃ k : Nat, k ≤ n ∧ i = .int .i64 k ∧ (∀ j (hj : j < l.length) (hj' : j < m.length), j < k → l[j] = m[j]) ∧ Below w.heap.size w wr) (fun i _ => n - (intOf i).toNat)
  case atStart => exact ⟨0, Nat.zero_le _, rfl, fun j _ _ h => absurd h (Nat.not_lt_zero _), Below.refl _ _⟩
  case round =>
   obtain ⟨k, hk, rfl, hall, hbel⟩ := hrel
   have HA := hid hall; clear hall
   have HB := hid hbel; clear hbel
   by_cases hlt : k < n
   ·have hl : Hid (k < l.length) := hid (by have := HN.out.1; omega)
    have hm : Hid (k < m.length) := hid (by have := HN.out.2; omega)
    rcases h3 with ⟨rfl, _⟩ | ⟨b, o, rfl, h4, h5⟩
    ·exact absurd hl.out (Nat.not_lt_zero _)
    rcases k3 with ⟨rfl, _⟩ | ⟨b2, o2, rfl, k4, k5⟩
    ·exact absurd hm.out (Nat.not_lt_zero _)
    have hc := (HB.out.cell (p := ⟨b, o + k * 2, none⟩) h4).trans (h5 k hl.out).1
    have hd := (HB.out.cell (p := ⟨b, o + k * 2 + 1, none⟩) h4).trans (h5 k hl.out).2
    have kc := (HB.out.cell (p := ⟨b2, o2 + k * 2, none⟩) k4).trans (k5 k hm.out).1
    have kd := (HB.out.cell (p := ⟨b2, o2 + k * 2 + 1, none⟩) k4).trans (k5 k hm.out).2
    clear h5 k5
    have hltz : (k : Int) < (n : Int) := by omega
    by_cases he : l[k]'hl.out = m[k]'hm.out
    ·have HE := hid he
     rw [← he] at kc kd
     clear he
     generalize ba (l[k]'hl.out).1 = x at hc kc
     generalize ba (l[k]'hl.out).2 = y at hd kd
     have b1 := ba_same (x := x)
     have b2 := ba_same (x := y)
     go_wp2
     go_quiet (fail)
     go_wp2
     go_roundw
     case rel =>
      refine ⟨k + 1, by omega, by go_num, fun j hj hj' hjk => ?_, ?_⟩
      ·rcases Nat.lt_succ_iff_lt_or_eq.1 hjk with h | rfl
       ·exact HA.out j hj hj' h
       ·exact HE.out
      ·exact HB.out.trans ((below_drewN _ _).mono HB.out.size)
     case measure => simp [intOf]; omega
    ·have HE := hid he
     have hne : ((ba (l[k]'hl.out).1).toList == (ba (m[k]'hm.out).1).toList) = false ∨ (((ba (l[k]'hl.out).1).toList == (ba (m[k]'hm.out).1).toList) = true ∧ ((ba (l[k]'hl.out).2).toList == (ba (m[k]'hm.out).2).toList) = false) := by
      by_cases e1 : (l[k]'hl.out).1 = (m[k]'hm.out).1
      ·exact .inr ⟨by rw [e1]; exact ba_same, ba_ne fun e2 => he (Prod.ext e1 e2)⟩
      ·exact .inl (ba_ne e1)
     clear he
     generalize ba (l[k]'hl.out).1 = x at hc hne
     generalize ba (m[k]'hm.out).1 = y at kc hne
     generalize ba (l[k]'hl.out).2 = x2 at hd hne
     generalize ba (m[k]'hm.out).2 = y2 at kd hne
     rcases hne with b1 | ⟨b1, b2⟩
     ·go_wp2
      go_quiet (fail)
      go_wp2
      go_ret
      exact ⟨ret_bl (decide_eq_false fun e => HE.out (by subst e; rfl)).symm, HB.out.trans ((below_drewN _ _).mono HB.out.size)⟩
     ·go_wp2
      go_quiet (fail)
      go_wp2
      go_ret
      exact ⟨ret_bl (decide_eq_false fun e => HE.out (by subst e; rfl)).symm, HB.out.trans ((below_drewN _ _).mono HB.out.size)⟩
   ·go_wp2
    go_ret
    refine ⟨ret_bl (decide_eq_true (List.ext_getElem (by rw [← HN.out.1, ← HN.out.2]) fun j hj hj' => HA.out j hj hj' ?_)).symm, HB.out⟩
    have := HN.out.1
    omega
 ·have H : Hid (l ≠ m) := hid fun e => hlen (by rw [e])
  have hz : ¬ (l.length : Int) = (m.length : Int) := by omega
  go_enter Tryz.func11, Tryz.ntmps11
  go_wp2
  go_ret
  exact ⟨ret_bl (decide_eq_false H.out).symm, Below.refl _ _⟩
theorem ba_size (x : L8) : (ba x).size = x.length := by simp [ba, ByteArray.size]
end
end Go.Proofs.YtgdejjkiiaodkaaGreatDoor
