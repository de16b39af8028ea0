/- The contract of the statements' Few (out of wip/name's text). -/
import Derived.Test.YtfafoognjodeiaaDoorNamKinds
import Derived.Test.YtfafoognjodeiaaDoorNamRsame
import Derived.RegionTactic
import Derived.ChangeAlike
namespace Go.Proofs.YtfafoognjodeiaaDoor
open Go.RowKit Go.Sort
open Nw
set_option linter.unusedVariables false
theorem few_len {l : List L8} {most : Int} (h : fewL l most = true) : (l.length : Int) ≤ most := by
  unfold fewL at h; rw [Bool.and_eq_true] at h; exact of_decide_eq_true h.1

set_option maxHeartbeats 1600000 in
theorem Few_any (v : Value) (l : List L8) (most : Int) (w : World) (h : Rd w v l) (hm1 : most ≤ 9223372036854775807) (hm2 : -9223372036854775808 ≤ most) :
    Calls Tryd.prog 12 #[v, .int .i64 most] w fun e w' => e = .returned (.bool (fewL l most)) ∧ w = w' := by
  obtain ⟨a, cap, rfl, h1, h2, h3⟩ := h
  unfold maxLen at h2
  by_cases hlong : most < (l.length : Int)
  · have H : Hid (fewL l most = false) := Lib.hid (by unfold fewL; rw [decide_eq_false (by omega)]; rfl)
    go_enter Tryd.func12, Tryd.ntmps12
    go_wp2
    go_ret
    exact ⟨ret_bool H.out.symm, rfl⟩
  have H : Hid ((l.length : Int) ≤ most) := Lib.hid (by omega)
  go_enter Tryd.func12, Tryd.ntmps12
  go_wp2
  go_loop [5] (fun i => ∃ k : Nat, k ≤ l.length ∧ i = .int .i64 k ∧ ∀ j (hj : j < l.length), j < k → l[j].length ≤ 100) (fun i => l.length - (intOf i).toNat)
  case atStart => exact ⟨0, Nat.zero_le _, rfl, fun j _ h => absurd h (Nat.not_lt_zero _)⟩
  case round =>
    obtain ⟨k, hk, rfl, hall⟩ := hrel
    have HA := Lib.hid hall; clear hall
    by_cases hlt : k < l.length
    · rcases h3 with ⟨rfl, _⟩ | ⟨b, o, rfl, h4, h5⟩
      · exact absurd hlt (Nat.not_lt_zero _)
      have hc := h5 k hlt
      clear h5
      have hsz : (ba l[k]).size = l[k].length := by rw [← len_eq, ba_data]
      have HZ := Lib.hid hsz; clear hsz
      by_cases he : (100 : Int) < ((ba l[k]).size : Int)
      · have HE : Hid (¬ l[k].length ≤ 100) := Lib.hid (by rw [← HZ.out]; omega)
        generalize ba l[k] = x at hc he
        go_wp2
        go_ret
        refine ⟨ret_bool (Eq.symm ?_), rfl⟩
        unfold fewL
        rw [Bool.and_eq_false_iff]
        right
        rw [List.all_eq_false]
        exact ⟨l[k], List.getElem_mem _, by simpa using HE.out⟩
      · have HE : Hid (l[k].length ≤ 100) := Lib.hid (by rw [← HZ.out]; omega)
        generalize ba l[k] = x at hc he
        go_wp2
        go_round
        case rel =>
          refine ⟨k + 1, by omega, by go_num, fun j hj hjk => ?_⟩
          rcases Nat.lt_succ_iff_lt_or_eq.1 hjk with h | rfl
          · exact HA.out j hj h
          · exact HE.out
        case measure => simp [intOf]; omega
    · go_wp2
      go_ret
      refine ⟨ret_bool (Eq.symm ?_), rfl⟩
      unfold fewL
      rw [decide_eq_true H.out, Bool.true_and, List.all_eq_true]
      intro x hx
      obtain ⟨j, hj, rfl⟩ := List.mem_iff_getElem.1 hx
      exact decide_eq_true (HA.out j hj (by omega))

end Go.Proofs.YtfafoognjodeiaaDoor
