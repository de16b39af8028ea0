/- NameKinds: for every text, Service, Variable and Project answer as the document's own answers do, and a project's name is a service's. -/
import Derived.Test.YtbbijhgiddbonaaNamAwake
import Derived.Test.YtbbijhgiddbonaaNamRefs
namespace Go.Proofs.Ytbbijhgiddbonaa
open Go.RowKit
open Nw
set_option linter.unusedVariables false

set_option maxHeartbeats 4000000 in
theorem NameKinds_walk (s : ByteArray) (hs : s.size ≤ maxLen) (w : World) :
    Calls Try.prog 3 #[.string s] w fun e w' => e = .returned (.bool true) ∧ Below w.heap.size w w' := by
  have hs' := hs
  unfold maxLen at hs'
  by_cases hlen : 4000 < s.size
  · have hlen' : (4000 : Int) < (s.size : Int) := by omega
    go_enter Try.func3, Try.ntmps3
    go_wp2_with (go_at_call 6; refine (awake_any _).mono ?_; rintro e w5 ⟨rfl, hb5⟩)
    go_ret
    exact ⟨rfl, hb5⟩
  · have hlen' : ¬ (4000 : Int) < (s.size : Int) := by omega
    have hps : Hid (nm p1 p2 s.data.toList = true → nm s1 s2 s.data.toList = true) := Lib.hid p_s
    have HA := Lib.hid fun w => Service_any s w hs
    have HB := Lib.hid fun w => Variable_any s w hs
    have HC := Lib.hid fun w => Project_any s w hs
    have RA := Lib.hid fun w => RService_any s w hs
    have RB := Lib.hid fun w => RVariable_any s w hs
    have RC := Lib.hid fun w => RProject_any s w hs
    generalize nm s1 s2 s.data.toList = ra at *
    generalize nm v1 v2 s.data.toList = rb at *
    generalize nm p1 p2 s.data.toList = rc at *
    have fin : ∀ w1 w2 w3 w4 : World, Below w.heap.size w w1 → Below w1.heap.size w1 w2 → Below w2.heap.size w2 w3 → Below w3.heap.size w3 w4 → Below w.heap.size w w4 := fun w1 w2 w3 w4 h1 h2 h3 h4 => below_trans' (below_trans' (below_trans' h1 h2) h3) h4
    have FIN := Lib.hid fin
    clear fin hs hs'
    cases rc with
    | true =>
      obtain rfl : ra = true := hps.out rfl
      cases rb
      all_goals
        go_enter Try.func3, Try.ntmps3
        go_wp2_with fail
        refine (HA.out _).mono ?_
        rintro e w1 ⟨rfl, hb1⟩
        go_wp2_with fail
        refine (HB.out _).mono ?_
        rintro e w2 ⟨rfl, hb2⟩
        go_wp2_with fail
        refine (HC.out _).mono ?_
        rintro e w3 ⟨rfl, hb3⟩
        go_wp2_with fail
        refine (RA.out _).mono ?_
        rintro e w4 ⟨rfl, rfl⟩
        go_wp2_with fail
        refine (RB.out _).mono ?_
        rintro e w4 ⟨rfl, rfl⟩
        go_wp2_with fail
        refine (RC.out _).mono ?_
        rintro e w4 ⟨rfl, rfl⟩
        go_wp2_with fail
        refine (awake_any _).mono ?_
        rintro e w4 ⟨rfl, hb4⟩
        go_wp2
        go_ret
        exact ⟨rfl, FIN.out _ _ _ _ hb1 hb2 hb3 hb4⟩
    | false =>
      cases ra <;> cases rb
      all_goals
        go_enter Try.func3, Try.ntmps3
        go_wp2_with fail
        refine (HA.out _).mono ?_
        rintro e w1 ⟨rfl, hb1⟩
        go_wp2_with fail
        refine (HB.out _).mono ?_
        rintro e w2 ⟨rfl, hb2⟩
        go_wp2_with fail
        refine (HC.out _).mono ?_
        rintro e w3 ⟨rfl, hb3⟩
        go_wp2_with fail
        refine (RA.out _).mono ?_
        rintro e w4 ⟨rfl, rfl⟩
        go_wp2_with fail
        refine (RB.out _).mono ?_
        rintro e w4 ⟨rfl, rfl⟩
        go_wp2_with fail
        refine (RC.out _).mono ?_
        rintro e w4 ⟨rfl, rfl⟩
        go_wp2_with fail
        refine (awake_any _).mono ?_
        rintro e w4 ⟨rfl, hb4⟩
        go_wp2
        go_ret
        exact ⟨rfl, FIN.out _ _ _ _ hb1 hb2 hb3 hb4⟩

end Go.Proofs.Ytbbijhgiddbonaa
