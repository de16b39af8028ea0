/- TmpGive, RefEnv4, LawSub1 -/
import Derived.Below
import Derived.Deep.LoopGhost
import Derived.IntWalk
import Derived.Laws.BytesArg
import Derived.Lib.Bytealg
import Derived.Lib.Hide
import Derived.Lib.IndexMore
import Derived.Lib.Replace
import Derived.ProofKit
import Derived.Test.YtkcilmmaggmmoaaDoorGT19
import Derived.Test.YtkcilmmaggmmoaaDoorGT20
import Derived.Test.YtkcilmmaggmmoaaDoorGT21
import Derived.Test.YtkcilmmaggmmoaaDoorGT29
import Derived.Test.YtkcilmmaggmmoaaDoorGT3
import Derived.Test.YtkcilmmaggmmoaaDoorGT30
import Derived.Test.YtkcilmmaggmmoaaDoorGT31
import Derived.Test.YtkcilmmaggmmoaaDoorGT4
import Derived.Test.YtkcilmmaggmmoaaDoorGT6
import Derived.Test.YtkcilmmaggmmoaaDoorGT7
import Derived.Test.YtkcilmmaggmmoaaDoorGT8
import Derived.WalkKit
set_option linter.unusedVariables false
set_option linter.unusedSimpArgs false
set_option maxRecDepth 100000
set_option maxHeartbeats 16000000
open Go.Lib (hid)
namespace Go.Proofs.YtkcilmmaggmmoaaDoor
namespace Nw
end Nw
namespace Q6
end Q6
namespace S14
end S14
namespace T13
end T13
namespace V12
end V12
end Go.Proofs.YtkcilmmaggmmoaaDoor
namespace Go.Proofs.YtkcilmmaggmmoaaDoor
section
open Go.RowKit Go.Sort
open Nw T13
def GivesP (R : PR) (w : World) (e : Ending) (w' : World) : Prop := match R with
 | .ok ps _ => ∃ v, e = .returned (.tuple #[v, .int .i64 0]) ∧ PtW w' v ps ∧ Below w.heap.size w w'
 | .err er => ∃ v, e = .returned (.tuple #[v, .int .i64 er]) ∧ PtW w' v [] ∧ Below w.heap.size w w'
end
section
open Go.RowKit Go.Sort
open Nw V12 Q6
theorem ROf_any (v : Value) (l : List KV) (w : World) (h : VR w v l) (hok : KVk l) (hbig : l.length ≤ 100000) :
  Calls Tryd.prog 7 #[v] w fun e w' => ∃ v', e = .returned v' ∧ VR w' v' (ofV l) ∧ Below w.heap.size w w' := by
 have HG := hid (RGathered_own v l w h hok hbig)
 have HL := hid (gath_len l)
 clear h hok
 go_enter Tryd.func7, Tryd.ntmps7
 go_wp2_with (go_at_call 16; refine HG.out.mono ?_; rintro e w1 ⟨v1, rfl, o1, b1⟩)
 obtain ⟨h1, _⟩ := vr_of_owns o1
 have H1 := hid h1
 have HB := hid b1
 obtain ⟨a1, cap1, rfl, k1, k2, k3⟩ := h1
 clear o1 b1 k3
 have hll : (gath l).length ≤ 100000 := by have := HL.out; omega
 obtain ⟨m, hm⟩ : ∃ m, m = (gath l).length := ⟨_, rfl⟩
 have HM := hid hm
 rw [← hm] at k1 hll ⊢
 unfold maxLen at k2
 by_cases hlt : 64 < m
 ·have hz : (64 : Int) < (m : Int) := by omega
  have hc : 64 ≤ cap1 := by omega
  have hcz : (64 : Int) ≤ (cap1 : Int) := by omega
  clear hm hlt
  go_wp2
  go_ret
  obtain ⟨a, cap, e, h2⟩ := H1.out.take 64 (by have := HM.out; omega)
  injection e with e1 e2 e3
  subst e1; subst e3
  exact ⟨_, rfl, h2, HB.out⟩
 ·have hz : ¬ (64 : Int) < (m : Int) := by omega
  clear hm
  go_wp2
  go_ret
  refine ⟨_, rfl, ?_, HB.out⟩
  have e : ofV l = gath l := List.take_of_length_le (by have := HM.out; omega)
  rw [e]
  have := H1.out
  rw [← HM.out] at this
  exact this
end
section
open Go.RowKit Go.Sort
open Nw V12 S14
theorem vr_one (w : World) (a b : L8) : VR (w.alloc (.cells #[.string (ba a), .string (ba b)] 43)) (.slice (some ⟨w.heap.size, 0, none⟩) 1 1) [(a, b)] :=
 (vr_of_owns (base := w.heap.size) (n := 1) (e := 43) (l := [(a, b)]) ⟨rfl, .inr ⟨w.heap.size, 1, #[.string (ba a), .string (ba b)], rfl, Nat.le_refl _, Array.getElem?_push_size (xs := w.heap), Nat.le_refl _, by unfold maxLen; decide, rfl, rfl⟩⟩).1
theorem exE_s : EnvS exE := ⟨⟨by unfold Asc exE; simp, fun p hp => by
  have : p = ([65], [120]) := List.mem_singleton.1 hp
  rw [this]; decide⟩, by decide, fun p hp => by
  have : p = ([65], [120]) := List.mem_singleton.1 hp
  rw [this]; exact ⟨by decide, by decide⟩⟩
theorem str_self (x : ByteArray) : (x.toList == x.toList) = true := beq_self_eq_true _
theorem int_self (x : Int) : (x == x) = true := beq_self_eq_true _
section
variable (Pw : World → Prop) (hPw : ∀ w w', Pw w → Below w.heap.size w w' → Pw w')
variable (HText : ∀ (s : ByteArray) (v : Value) (x : List KV) (W : World), Pw W → s.size ≤ 100000 → VR W v x → EnvS x → Calls Tryd.prog 8 #[.string s, v] W fun e w' => e = .returned (SayO (sayX (lastV x) s.data.toList)) ∧ Below W.heap.size W w')
include hPw HText
theorem Awake14 (w : World) (hw : Pw w) : Calls Tryd.prog 6 #[] w fun e w' => e = .returned (.bool true) ∧ Below w.heap.size w w' := by
 have hb0 : Below w.heap.size w (w.alloc (.cells #[.string ⟨#[65]⟩, .string ⟨#[120]⟩] 43)) := (Below.refl _ _).alloc (Nat.le_refl _) _
 have hv0 : VR (w.alloc (.cells #[.string ⟨#[65]⟩, .string ⟨#[120]⟩] 43)) (.slice (some ⟨w.heap.size, 0, none⟩) 1 1) exE := vr_one w [65] [120]
 have HA : Hid (∀ W v, Pw W → VR W v exE → Calls Tryd.prog 8 #[.string ⟨#[36, 123, 65, 125, 45, 36, 123, 66, 58, 45, 36, 65, 125]⟩, v] W fun e w' => e = .returned (.tuple #[.string ⟨#[120, 45, 120]⟩, .int .i64 0]) ∧ Below W.heap.size W w') := hid (fun W v h hv => by
  refine (HText ⟨exT1.toArray⟩ v exE W h (by decide) hv exE_s).mono ?_
  rintro e w' ⟨he, hb⟩
  rw [show (⟨exT1.toArray⟩ : ByteArray).data.toList = exT1 from rfl, ex_ok] at he
  exact ⟨he, hb⟩)
 have HB : Hid (∀ W v, Pw W → VR W v exE → Calls Tryd.prog 8 #[.string ⟨#[36, 123, 66, 63, 103, 111, 110, 101, 125]⟩, v] W fun e w' => e = .returned (.tuple #[.string ⟨#[]⟩, .int .i64 4]) ∧ Below W.heap.size W w') := hid (fun W v h hv => by
  obtain ⟨k, y, hbad⟩ := ex_bad
  refine (HText ⟨exT2.toArray⟩ v exE W h (by decide) hv exE_s).mono ?_
  rintro e w' ⟨he, hb⟩
  rw [show (⟨exT2.toArray⟩ : ByteArray).data.toList = exT2 from rfl, hbad] at he
  exact ⟨he, hb⟩)
 have HW := hid (hPw _ _ hw hb0)
 have HP := hid hPw
 have HV := hid hv0
 have HB0 := hid hb0
 clear HText hw hPw hv0 hb0
 go_enter Tryd.func6, Tryd.ntmps6
 go_wp2_with first
  | (go_at_call 8; (with_reducible refine (HA.out _ _ HW.out HV.out).mono ?_); rintro e w1 ⟨rfl, b1⟩; have HV1 := hid (HV.out.below b1); have HW1 := hid (HP.out _ _ HW.out b1); have B1 := hid (HB0.out.trans (b1.mono HB0.out.size)); clear b1)
  | (go_at_call 8; (with_reducible refine (HB.out _ _ HW1.out HV1.out).mono ?_); rintro e w2 ⟨rfl, b2⟩; have B2 := hid (B1.out.trans (b2.mono B1.out.size)); clear b2)
 go_ret
 exact ⟨by simp, B2.out⟩
end
end
end Go.Proofs.YtkcilmmaggmmoaaDoor
