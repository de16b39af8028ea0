/- The contracts of the reference's Same and of the statement's Few. -/
import Derived.Test.YtfafoognjodeiaaDoorNamRd
import Derived.RegionTactic
import Derived.ChangeAlike
namespace Go.Proofs.YtfafoognjodeiaaDoor
open Go.RowKit Go.Sort
open Nw
set_option linter.unusedVariables false

theorem ret_bool {a b : Bool} (h : a = b) : Ending.returned (.bool a) = .returned (.bool b) := by rw [h]
theorem str_ne_true {x y : L8} (h : x ≠ y) : ((ba x).toList == (ba y).toList) = false := by rw [ba_list, ba_list]; exact beq_eq_false_iff_ne.2 h
theorem str_ne_false {x : L8} : ((ba x).toList == (ba x).toList) = true := by simp

set_option maxHeartbeats 1600000 in
theorem RSame_any (v u : Value) (l m : List L8) (w : World) (h : Rd w v l) (k : Rd w u m) :
    Calls Tryd.prog 9 #[v, u] w fun e w' => e = .returned (.bool (decide (l = m))) ∧ Below w.heap.size w w' := by
  obtain ⟨a, cap, rfl, h1, h2, h3⟩ := h
  obtain ⟨a2, cap2, rfl, k1, k2, k3⟩ := k
  unfold maxLen at h2 k2
  by_cases hlen : l.length = m.length
  · obtain ⟨n, hn⟩ : ∃ n, n = l.length := ⟨_, rfl⟩
    have hm : n = m.length := by omega
    have HN : Hid (n = l.length ∧ n = m.length) := Lib.hid ⟨hn, hm⟩
    rw [← hn, ← hm]
    rw [← hn] at h1
    rw [← hm] at k1
    clear hn hm hlen
    go_enter Tryd.func9, Tryd.ntmps9
    go_wp2
    go_loopw [5] (fun i wr => ∃ k : Nat, k ≤ n ∧ i = .int .i64 k ∧ (∀ j (hj : j < l.length) (hj' : j < m.length), j < k → l[j] = m[j]) ∧ Below w.heap.size w wr) (fun i _ => n - (intOf i).toNat)
    case atStart => exact ⟨0, Nat.zero_le _, rfl, fun j _ _ h => absurd h (Nat.not_lt_zero _), Below.refl _ _⟩
    case round =>
      obtain ⟨k, hk, rfl, hall, hbel⟩ := hrel
      have HA := Lib.hid hall; clear hall
      have HB := Lib.hid hbel; clear hbel
      by_cases hlt : k < n
      · have hl : Hid (k < l.length) := Lib.hid (by have := HN.out.1; omega)
        have hm : Hid (k < m.length) := Lib.hid (by have := HN.out.2; omega)
        rcases h3 with ⟨rfl, _⟩ | ⟨b, o, rfl, h4, h5⟩
        · exact absurd hl.out (Nat.not_lt_zero _)
        rcases k3 with ⟨rfl, _⟩ | ⟨b2, o2, rfl, k4, k5⟩
        · exact absurd hm.out (Nat.not_lt_zero _)
        have hc := (HB.out.cell (p := ⟨b, o + k, none⟩) h4).trans (h5 k hl.out)
        have kc := (HB.out.cell (p := ⟨b2, o2 + k, none⟩) k4).trans (k5 k hm.out)
        clear h5 k5
        have hltz : (k : Int) < (n : Int) := by omega
        by_cases he : l[k]'hl.out = m[k]'hm.out
        · have HE := Lib.hid he
          have b1 := str_ne_false (x := l[k]'hl.out)
          rw [← he] at kc
          clear he
          generalize ba (l[k]'hl.out) = x at hc kc b1
          go_wp2
          go_quiet (fail)
          go_wp2
          go_roundw
          case rel =>
            refine ⟨k + 1, by omega, by go_num, fun j hj hj' hjk => ?_, ?_⟩
            · rcases Nat.lt_succ_iff_lt_or_eq.1 hjk with h | rfl
              · exact HA.out j hj hj' h
              · exact HE.out
            · exact HB.out.trans ((below_drewN _ _).mono HB.out.size)
          case measure => simp [intOf]; omega
        · have HE := Lib.hid he
          have b1 := str_ne_true he
          clear he
          generalize ba (l[k]'hl.out) = x at hc b1
          generalize ba (m[k]'hm.out) = y at kc b1
          go_wp2
          go_quiet (fail)
          go_wp2
          go_ret
          exact ⟨ret_bool (decide_eq_false fun e => HE.out (by subst e; rfl)).symm, HB.out.trans ((below_drewN _ _).mono HB.out.size)⟩
      · go_wp2
        go_ret
        refine ⟨ret_bool (decide_eq_true (List.ext_getElem (by rw [← HN.out.1, ← HN.out.2]) fun j hj hj' => HA.out j hj hj' ?_)).symm, HB.out⟩
        have := HN.out.1
        omega
  · have H : Hid (l ≠ m) := Lib.hid fun e => hlen (by rw [e])
    have hz : ¬ (l.length : Int) = (m.length : Int) := by omega
    go_enter Tryd.func9, Tryd.ntmps9
    go_wp2
    go_ret
    exact ⟨ret_bool (decide_eq_false H.out).symm, Below.refl _ _⟩

/-- At most so many strings of at most 100 bytes. -/
def fewL (l : List L8) (most : Int) : Bool := decide ((l.length : Int) ≤ most) && l.all fun x => decide (x.length ≤ 100)

end Go.Proofs.YtfafoognjodeiaaDoor
