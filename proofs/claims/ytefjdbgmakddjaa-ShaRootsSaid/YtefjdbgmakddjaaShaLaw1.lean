/- ShaRoots: Primes and Root return what the document's own answers return. -/
import Derived.Test.YtefjdbgmakddjaaShaAwake
namespace Go.Proofs.Ytefjdbgmakddjaa
open Go.RowKit
open Sh Ro Pr
set_option linter.unusedVariables false
theorem RPrimesRE_q (n : Int) (l : List Nat) (w : World) (h : primesL n = l) :
    Calls Try.prog 9 #[.int .i64 n] w fun e w' => ∃ v, e = .returned v ∧ RE encN w' v l ∧ Below w.heap.size w w' := by
  subst h; exact RPrimes_any n w
theorem same_self (v u : Value) (l : List Nat) (w : World) (h : RE encN w v l) (k : RE encN w u l) :
    Calls Try.prog 7 #[v, u] w fun e w' => e = .returned (.bool true) ∧ Below w.heap.size w w' :=
  (same_any v u l l w h k).mono fun e w' ⟨h1, h2⟩ => ⟨by rw [h1]; exact ret_b (decide_eq_true rfl), h2⟩
theorem RRootQ (p kind x : Int) (w : World) (h : rootI p kind = x) :
    Calls Try.prog 11 #[.int .i64 p, .int .i64 kind] w fun e w' => e = .returned (.int .u32 x) ∧ Below w.heap.size w w' := by
  subst h; exact RRoot_any p kind w
set_option maxHeartbeats 2000000 in
theorem ShaRoots_walk (n p kind : Int) (g1 : (Lit.int .i64 n).wf = true) (g2 : (Lit.int .i64 p).wf = true) (g3 : (Lit.int .i64 kind).wf = true) (w : World) :
    Calls Try.prog 3 #[.int .i64 n, .int .i64 p, .int .i64 kind] w fun e w' => e = .returned (.bool true) ∧ Below w.heap.size w w' := by
  clear g1 g2 g3
  obtain ⟨l, hl⟩ : ∃ l, primesL n = l := ⟨_, rfl⟩
  obtain ⟨x, hx⟩ : ∃ x, rootI p kind = x := ⟨_, rfl⟩
  have HL := Lib.hid hl
  have HX := Lib.hid hx
  clear hl hx
  go_enter Try.func3, Try.ntmps3
  go_wp2_with fail
  refine (Primes_q n l _ HL.out).mono ?_
  rintro e w1 ⟨v, rfl, hv, hb1⟩
  have HV := Lib.hid hv
  clear hv
  go_wp2_with fail
  refine (RPrimesRE_q n l _ HL.out).mono ?_
  rintro e w2 ⟨u, rfl, hu, hb2⟩
  have HU := Lib.hid hu
  replace HV := Lib.hid (HV.out.below hb2)
  have b2 := below_next hb1 hb2
  clear hu hb1 hb2
  go_wp2_with fail
  refine (same_self v u l _ HV.out HU.out).mono ?_
  rintro e w3 ⟨rfl, hb3⟩
  have b3 := below_next b2 hb3
  clear b2 hb3 HV HU
  go_wp2_with fail
  refine (Root_q p kind x _ HX.out).mono ?_
  rintro e w4 ⟨rfl, rfl⟩
  go_wp2_with fail
  refine (RRootQ p kind x _ HX.out).mono ?_
  rintro e w4 ⟨rfl, hb4⟩
  have b4 := below_next b3 hb4
  clear b3 hb4
  go_wp2_with fail
  refine (awake_any _).mono ?_
  rintro e w5 ⟨rfl, hb5⟩
  have b5 := below_next b4 hb5
  clear b4 hb5
  go_wp2
  go_ret
  exact ⟨rfl, b5⟩
end Go.Proofs.Ytefjdbgmakddjaa
