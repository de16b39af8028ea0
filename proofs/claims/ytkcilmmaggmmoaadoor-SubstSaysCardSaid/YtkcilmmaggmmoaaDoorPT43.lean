/- RefEnv4 -/
import Derived.Lib.Bytealg
import Derived.Lib.Hide
import Derived.Lib.IndexMore
import Derived.Lib.Replace
import Derived.Test.YtkcilmmaggmmoaaDoorPT42
set_option linter.unusedVariables false
set_option linter.unusedSimpArgs false
set_option maxRecDepth 100000
set_option maxHeartbeats 16000000
open Go.Lib (hid)
namespace Go.Proofs.YtkcilmmaggmmoaaDoor
namespace Nw
end Nw
namespace Q6
end Q6
namespace V12
end V12
end Go.Proofs.YtkcilmmaggmmoaaDoor
namespace Go.Proofs.YtkcilmmaggmmoaaDoor
section
open Go.RowKit Go.Sort
open Nw V12 Q6
theorem ROf_any (v : Value) (l : List KV) (w : World) (h : VR w v l) (hok : KVk l) (hbig : l.length ≤ 100000) :
  Calls Tryd.prog 7 #[v] w fun e w' => ∃ v', e = .returned v' ∧ VR w' v' (ofV l) ∧ Below w.heap.size w w' := by
 have HG := hid (RGathered_own v l w h hok hbig)
 have HL := hid (gath_len l)
 clear h hok
 go_enter Tryd.func7, Tryd.ntmps7
 go_wp2_with (go_at_call 16; refine HG.out.mono ?_; rintro e w1 ⟨v1, rfl, o1, b1⟩)
 obtain ⟨h1, _⟩ := vr_of_owns o1
 have H1 := hid h1
 have HB := hid b1
 obtain ⟨a1, cap1, rfl, k1, k2, k3⟩ := h1
 clear o1 b1 k3
 have hll : (gath l).length ≤ 100000 := by have := HL.out; omega
 obtain ⟨m, hm⟩ : ∃ m, m = (gath l).length := ⟨_, rfl⟩
 have HM := hid hm
 rw [← hm] at k1 hll ⊢
 unfold maxLen at k2
 by_cases hlt : 64 < m
 ·have hz : (64 : Int) < (m : Int) := by omega
  have hc : 64 ≤ cap1 := by omega
  have hcz : (64 : Int) ≤ (cap1 : Int) := by omega
  clear hm hlt
  go_wp2
  go_ret
  obtain ⟨a, cap, e, h2⟩ := H1.out.take 64 (by have := HM.out; omega)
  injection e with e1 e2 e3
  subst e1; subst e3
  exact ⟨_, rfl, h2, HB.out⟩
 ·have hz : ¬ (64 : Int) < (m : Int) := by omega
  clear hm
  go_wp2
  go_ret
  refine ⟨_, rfl, ?_, HB.out⟩
  have e : ofV l = gath l := List.take_of_length_le (by have := HM.out; omega)
  rw [e]
  have := H1.out
  rw [← HM.out] at this
  exact this
end
end Go.Proofs.YtkcilmmaggmmoaaDoor
