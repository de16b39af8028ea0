/- LawSub1 -/
import Derived.Below
import Derived.Deep.LoopGhost
import Derived.IntWalk
import Derived.Laws.OwnMore
import Derived.ProofKit
import Derived.SliceStrings
import Derived.Test.YtkcilmmaggmmoaaDoorPT14
import Derived.Test.YtkcilmmaggmmoaaDoorPT18
import Derived.Test.YtkcilmmaggmmoaaDoorPT2
import Derived.Test.YtkcilmmaggmmoaaDoorPT27
import Derived.Test.YtkcilmmaggmmoaaDoorPT33
import Derived.Test.YtkcilmmaggmmoaaDoorPT4
import Derived.Test.YtkcilmmaggmmoaaDoorPT43
import Derived.WalkKit
set_option linter.unusedVariables false
set_option linter.unusedSimpArgs false
set_option maxRecDepth 100000
set_option maxHeartbeats 16000000
open Go.Lib (hid)
namespace Go.Proofs.YtkcilmmaggmmoaaDoor
namespace Nw
end Nw
namespace S14
end S14
namespace V12
end V12
end Go.Proofs.YtkcilmmaggmmoaaDoor
namespace Go.Proofs.YtkcilmmaggmmoaaDoor
section
open Go.RowKit Go.Sort
open Nw V12 S14
theorem vr_one (w : World) (a b : L8) : VR (w.alloc (.cells #[.string (ba a), .string (ba b)] 43)) (.slice (some ⟨w.heap.size, 0, none⟩) 1 1) [(a, b)] :=
 (vr_of_owns (base := w.heap.size) (n := 1) (e := 43) (l := [(a, b)]) ⟨rfl, .inr ⟨w.heap.size, 1, #[.string (ba a), .string (ba b)], rfl, Nat.le_refl _, Array.getElem?_push_size (xs := w.heap), Nat.le_refl _, by unfold maxLen; decide, rfl, rfl⟩⟩).1
theorem exE_s : EnvS exE := ⟨⟨by unfold Asc exE; simp, fun p hp => by
  have : p = ([65], [120]) := List.mem_singleton.1 hp
  rw [this]; decide⟩, by decide, fun p hp => by
  have : p = ([65], [120]) := List.mem_singleton.1 hp
  rw [this]; exact ⟨by decide, by decide⟩⟩
theorem str_self (x : ByteArray) : (x.toList == x.toList) = true := beq_self_eq_true _
theorem int_self (x : Int) : (x == x) = true := beq_self_eq_true _
def SaidB (w : World) (g : Nat) (a b c d : Value) : Prop := w.heap[g]? = some (.cells #[a, b, c, d] 30 (0, 0))
theorem SaidB.lt {w : World} {g : Nat} {a b c d : Value} (h : SaidB w g a b c d) : g < w.heap.size := (Array.getElem?_eq_some_iff.1 h).1
theorem SaidB.below {w w' : World} {g : Nat} {a b c d : Value} (h : SaidB w g a b c d) (hb : Below w.heap.size w w') : SaidB w' g a b c d := (hb.block g h.lt).trans h
theorem SaidB.cells {w : World} {g : Nat} {a b c d : Value} (h : SaidB w g a b c d) : w.cell? ⟨g, 0, none⟩ = some a ∧ w.cell? ⟨g, 1, none⟩ = some b ∧ w.cell? ⟨g, 2, none⟩ = some c ∧ w.cell? ⟨g, 3, none⟩ = some d := by
 unfold SaidB at h
 exact ⟨by simp [World.cell?, h], by simp [World.cell?, h], by simp [World.cell?, h], by simp [World.cell?, h]⟩
theorem saidB_new (w : World) (a b c d : Value) : SaidB (w.alloc (.cells #[a, b, c, d] 30)) w.heap.size a b c d := Array.getElem?_push_size (xs := w.heap)
section
variable (Pw : World → Prop) (hPw : ∀ w w', Pw w → Below w.heap.size w w' → Pw w')
variable (HText : ∀ (s : ByteArray) (v : Value) (x : List KV) (W : World), Pw W → s.size ≤ 100000 → VR W v x → EnvS x → Calls Tryd.prog 8 #[.string s, v] W fun e w' => e = .returned (SayO (sayX (lastV x) s.data.toList)) ∧ Below W.heap.size W w')
include hPw HText
theorem Awake14 (w : World) (hw : Pw w) : Calls Tryd.prog 6 #[] w fun e w' => e = .returned (.bool true) ∧ Below w.heap.size w w' := by
 have hb0 : Below w.heap.size w (w.alloc (.cells #[.string ⟨#[65]⟩, .string ⟨#[120]⟩] 43)) := (Below.refl _ _).alloc (Nat.le_refl _) _
 have hv0 : VR (w.alloc (.cells #[.string ⟨#[65]⟩, .string ⟨#[120]⟩] 43)) (.slice (some ⟨w.heap.size, 0, none⟩) 1 1) exE := vr_one w [65] [120]
 have HA : Hid (∀ W v, Pw W → VR W v exE → Calls Tryd.prog 8 #[.string ⟨#[36, 123, 65, 125, 45, 36, 123, 66, 58, 45, 36, 65, 125]⟩, v] W fun e w' => e = .returned (.tuple #[.string ⟨#[120, 45, 120]⟩, .int .i64 0]) ∧ Below W.heap.size W w') := hid (fun W v h hv => by
  refine (HText ⟨exT1.toArray⟩ v exE W h (by decide) hv exE_s).mono ?_
  rintro e w' ⟨he, hb⟩
  rw [show (⟨exT1.toArray⟩ : ByteArray).data.toList = exT1 from rfl, ex_ok] at he
  exact ⟨he, hb⟩)
 have HB : Hid (∀ W v, Pw W → VR W v exE → Calls Tryd.prog 8 #[.string ⟨#[36, 123, 66, 63, 103, 111, 110, 101, 125]⟩, v] W fun e w' => e = .returned (.tuple #[.string ⟨#[]⟩, .int .i64 4]) ∧ Below W.heap.size W w') := hid (fun W v h hv => by
  obtain ⟨k, y, hbad⟩ := ex_bad
  refine (HText ⟨exT2.toArray⟩ v exE W h (by decide) hv exE_s).mono ?_
  rintro e w' ⟨he, hb⟩
  rw [show (⟨exT2.toArray⟩ : ByteArray).data.toList = exT2 from rfl, hbad] at he
  exact ⟨he, hb⟩)
 have HW := hid (hPw _ _ hw hb0)
 have HP := hid hPw
 have HV := hid hv0
 have HB0 := hid hb0
 clear HText hw hPw hv0 hb0
 go_enter Tryd.func6, Tryd.ntmps6
 go_wp2_with first
  | (go_at_call 8; (with_reducible refine (HA.out _ _ HW.out HV.out).mono ?_); rintro e w1 ⟨rfl, b1⟩; have HV1 := hid (HV.out.below b1); have HW1 := hid (HP.out _ _ HW.out b1); have B1 := hid (HB0.out.trans (b1.mono HB0.out.size)); clear b1)
  | (go_at_call 8; (with_reducible refine (HB.out _ _ HW1.out HV1.out).mono ?_); rintro e w2 ⟨rfl, b2⟩; have B2 := hid (B1.out.trans (b2.mono B1.out.size)); clear b2)
 go_ret
 exact ⟨by simp, B2.out⟩
variable (HParse : ∀ (s : ByteArray) (W : World), Pw W → s.size ≤ 100000 → Calls Tryd.prog 10 #[.string s] W (GivesP (T13.prsT s.data.toList) W))
variable (HRef : ∀ (s : ByteArray) (v : Value) (x : List KV) (W : World), s.size ≤ 100000 → VR W v x → EnvS x → Calls Tryd.prog 9 #[.string s, v] W (SayW (sayX (lastV x) s.data.toList) W))
variable (HExpand : ∀ (p v : Value) (ps : List T13.Pt) (x : List KV) (W : World), Pw W → PtW W p ps → T13.WfL 1 ps → (T13.txtL ps).length ≤ 100000 → VR W v x → EnvS x → Calls Tryd.prog 11 #[p, v] W fun e w' => e = .returned (SayO (sayL (lastV x) [] ps)) ∧ Below W.heap.size W w')
variable (HNeeds : ∀ (p v : Value) (ps : List T13.Pt) (x : List KV) (W : World), Pw W → PtW W p ps → T13.WfL 1 ps → (T13.txtL ps).length ≤ 100000 → VR W v x → EnvS x → Calls Tryd.prog 12 #[p, v] W fun e w' => e = .returned (NeedO (sayL (lastV x) [] ps)) ∧ Below W.heap.size W w')
include HParse HRef HExpand HNeeds
theorem SubstSays_walk (s : ByteArray) (l : List KV) (v : Value) (w : World) (hw : Pw w) (hs : s.size ≤ maxLen) (hl : VR w v l) (okl : KVok l) : Calls Tryd.prog 3 #[.string s, v] w fun e w' => e = .returned (.bool true) ∧ Below w.heap.size w w' := by
 have HAW := hid (fun W hW => Awake14 Pw hPw HText W hW)
 have HW := hid hw
 have HP := hid hPw
 have F0 := Few12_any v l 60 w hl okl
 unfold maxLen at hs
 by_cases h1 : (1000 : Int) < (s.size : Int)
 ·clear HText HParse HRef HExpand HNeeds hw hPw F0
  go_enter Tryd.func3, Tryd.ntmps3
  go_wp2_with (go_at_call 6; refine (HAW.out _ HW.out).mono ?_; rintro e w1 ⟨rfl, b1⟩)
  go_ret
  exact ⟨rfl, b1⟩
 by_cases hf : ¬ fewV l 60
 ·rw [decide_eq_false hf] at F0
  have F := hid F0
  clear HText HParse HRef HExpand HNeeds hw hPw F0
  go_enter Tryd.func3, Tryd.ntmps3
  go_wp2_with first
   | (go_at_call 5; refine F.out.mono ?_; rintro e w1 ⟨rfl, rfl⟩)
   | (go_at_call 6; refine (HAW.out _ HW.out).mono ?_; rintro e w1 ⟨rfl, b1⟩)
  go_ret
  exact ⟨rfl, b1⟩
 replace hf : fewV l 60 := Classical.not_not.1 hf
 rw [decide_eq_true hf] at F0
 have F := hid F0
 have HOF := hid (ROf_any v l w hl (fun p hp => (okl p hp).1) (by have := hf.1; omega))
 have hES := of_s hf.2
 obtain ⟨x, hx⟩ : ∃ x, ofV l = x := ⟨_, rfl⟩
 rw [hx] at HOF hES
 have HES := hid hES
 have hs1 : s.size ≤ 1000 := by omega
 have CT := hid (fun (u : Value) (W : World) (h : Pw W) (hv : VR W u x) => HText s u x W h (by omega) hv hES)
 have CR := hid (fun (u : Value) (W : World) (hv : VR W u x) => HRef s u x W (by omega) hv hES)
 have CP := hid (fun (W : World) (h : Pw W) => HParse s W h (by omega))
 cases hR : T13.prsT s.data.toList with
 | err er =>
  have hX : sayX (lastV x) s.data.toList = .err er [] [] := by unfold sayX; rw [hR]
  rw [hX] at CT CR
  rw [hR] at CP
  replace CR : Hid (∀ (u : Value) (W : World), VR W u x → Calls Tryd.prog 9 #[.string s, u] W fun e w' => e = .returned (.agg #[.string ⟨#[]⟩, .string ⟨#[]⟩, .string ⟨#[]⟩, .int .i64 er]) ∧ Below W.heap.size W w') := CR
  replace CT : Hid (∀ (u : Value) (W : World), Pw W → VR W u x → Calls Tryd.prog 8 #[.string s, u] W fun e w' => e = .returned (.tuple #[.string ⟨#[]⟩, .int .i64 er]) ∧ Below W.heap.size W w') := CT
  have hne : (er != 0) = true := bne_iff_ne.2 (T13.prsT_err hR)
  have hee := int_self er
  have hee2 : (er != er) = false := by unfold bne; rw [hee]; rfl
  clear HText HParse HRef HExpand HNeeds hw hPw F0 hX hR hx hES hl okl hf hs1
  go_enter Tryd.func3, Tryd.ntmps3
  go_wp2_with first
   | (go_at_call 5; refine F.out.mono ?_; rintro e w1 ⟨rfl, rfl⟩)
   | (go_at_call 7; refine HOF.out.mono ?_; rintro e w2 ⟨v2, rfl, hv2, b2⟩; have HV := hid hv2; have BB := hid b2; replace HW := hid (HP.out _ _ HW.out b2); clear hv2 b2)
   | (go_at_call 8; refine (CT.out _ _ HW.out HV.out).mono ?_; rintro e w3 ⟨rfl, b3⟩; replace HV := hid (HV.out.below b3); replace BB := hid (BB.out.trans (b3.mono BB.out.size)); replace HW := hid (HP.out _ _ HW.out b3); clear b3)
   | (go_at_call 9; refine (CR.out _ _ HV.out).mono ?_; rintro e w4 ⟨rfl, b4⟩; have bA : Below w4.heap.size w4 (w4.alloc (.cells #[.string ⟨#[]⟩, .string ⟨#[]⟩, .string ⟨#[]⟩, .int .i64 er] 30)) := (Below.refl _ _).alloc (Nat.le_refl _) _; replace HV := hid ((HV.out.below b4).below bA); have bT := b4.trans (bA.mono b4.size); replace BB := hid (BB.out.trans (bT.mono BB.out.size)); replace HW := hid (HP.out _ _ HW.out bT); have hsb := saidB_new w4 (.string ⟨#[]⟩) (.string ⟨#[]⟩) (.string ⟨#[]⟩) (.int .i64 er); obtain ⟨s0, s1, s2, s3⟩ := hsb.cells; have HSB := hid hsb; clear b4 bA bT hsb)
   | (go_at_call 10; refine (CP.out _ HW.out).mono ?_; rintro e w5 ⟨v5, rfl, -, b5⟩; replace BB := hid (BB.out.trans (b5.mono BB.out.size)); replace HW := hid (HP.out _ _ HW.out b5); clear b5)
   | (go_at_call 6; refine (HAW.out _ HW.out).mono ?_; rintro e w9 ⟨rfl, b9⟩; replace BB := hid (BB.out.trans (b9.mono BB.out.size)); clear b9)
  go_ret
  exact ⟨by simp, BB.out⟩
 | ok ps r =>
  have hX : sayX (lastV x) s.data.toList = sayL (lastV x) [] ps := by unfold sayX; rw [hR]
  rw [hX] at CT CR
  rw [hR] at CP
  obtain ⟨hwf, -⟩ := T13.prsT_wf hR
  have hsz := T13.prsT_size hR
  rw [show s.data.toList.length = s.size from rfl] at hsz
  have CE := hid (fun (p u : Value) (W : World) (h : Pw W) (hp : PtW W p ps) (hv : VR W u x) => HExpand p u ps x W h hp hwf (by omega) hv hES)
  have CN := hid (fun (p u : Value) (W : World) (h : Pw W) (hp : PtW W p ps) (hv : VR W u x) => HNeeds p u ps x W h hp hwf (by omega) hv hES)
  cases hY : sayL (lastV x) [] ps with
  | ok t =>
   rw [hY] at CT CR CE CN
   obtain ⟨X, hXX⟩ : ∃ X, ba t = X := ⟨_, rfl⟩
   replace CT : Hid (∀ (u : Value) (W : World), Pw W → VR W u x → Calls Tryd.prog 8 #[.string s, u] W fun e w' => e = .returned (.tuple #[.string X, .int .i64 0]) ∧ Below W.heap.size W w') := hid (by rw [← hXX]; exact CT.out)
   replace CE : Hid (∀ (p u : Value) (W : World), Pw W → PtW W p ps → VR W u x → Calls Tryd.prog 11 #[p, u] W fun e w' => e = .returned (.tuple #[.string X, .int .i64 0]) ∧ Below W.heap.size W w') := hid (by rw [← hXX]; exact CE.out)
   replace CN : Hid (∀ (p u : Value) (W : World), Pw W → PtW W p ps → VR W u x → Calls Tryd.prog 12 #[p, u] W fun e w' => e = .returned (.tuple #[.string ⟨#[]⟩, .string ⟨#[]⟩]) ∧ Below W.heap.size W w') := CN
   replace CR : Hid (∀ (u : Value) (W : World), VR W u x → Calls Tryd.prog 9 #[.string s, u] W fun e w' => e = .returned (.agg #[.string X, .string ⟨#[]⟩, .string ⟨#[]⟩, .int .i64 0]) ∧ Below W.heap.size W w') := hid (by rw [← hXX]; exact CR.out)
   have hss := str_self X
   have hss2 : (X.toList != X.toList) = false := by unfold bne; rw [hss]; rfl
   clear HText HParse HRef HExpand HNeeds hw hPw F0 hX hR hx hES hl okl hf hs1 hwf hsz hXX hY
   go_enter Tryd.func3, Tryd.ntmps3
   go_wp2_with first
    | (go_at_call 5; refine F.out.mono ?_; rintro e w1 ⟨rfl, rfl⟩)
    | (go_at_call 7; refine HOF.out.mono ?_; rintro e w2 ⟨v2, rfl, hv2, b2⟩; have HV := hid hv2; have BB := hid b2; replace HW := hid (HP.out _ _ HW.out b2); clear hv2 b2)
    | (go_at_call 8; refine (CT.out _ _ HW.out HV.out).mono ?_; rintro e w3 ⟨rfl, b3⟩; replace HV := hid (HV.out.below b3); replace BB := hid (BB.out.trans (b3.mono BB.out.size)); replace HW := hid (HP.out _ _ HW.out b3); clear b3)
    | (go_at_call 9; refine (CR.out _ _ HV.out).mono ?_; rintro e w4 ⟨rfl, b4⟩; have bA : Below w4.heap.size w4 (w4.alloc (.cells #[.string X, .string ⟨#[]⟩, .string ⟨#[]⟩, .int .i64 0] 30)) := (Below.refl _ _).alloc (Nat.le_refl _) _; replace HV := hid ((HV.out.below b4).below bA); have bT := b4.trans (bA.mono b4.size); replace BB := hid (BB.out.trans (bT.mono BB.out.size)); replace HW := hid (HP.out _ _ HW.out bT); have hsb := saidB_new w4 (.string X) (.string ⟨#[]⟩) (.string ⟨#[]⟩) (.int .i64 0); obtain ⟨s0, s1, s2, s3⟩ := hsb.cells; have HSB := hid hsb; clear b4 bA bT hsb)
    | (go_at_call 10; refine (CP.out _ HW.out).mono ?_; rintro e w5 ⟨v5, rfl, hp5, b5⟩; have HPT := hid hp5; replace HSB := hid (HSB.out.below b5); replace HV := hid (HV.out.below b5); replace BB := hid (BB.out.trans (b5.mono BB.out.size)); replace HW := hid (HP.out _ _ HW.out b5); clear b5 hp5)
    | (go_at_call 11; refine (CE.out _ _ _ HW.out HPT.out HV.out).mono ?_; rintro e w6 ⟨rfl, b6⟩; replace HPT := hid (PtW.below HPT.out b6); replace HSB := hid (HSB.out.below b6); replace HV := hid (HV.out.below b6); replace BB := hid (BB.out.trans (b6.mono BB.out.size)); replace HW := hid (HP.out _ _ HW.out b6); clear b6)
    | (go_at_call 12; refine (CN.out _ _ _ HW.out HPT.out HV.out).mono ?_; rintro e w7 ⟨rfl, b7⟩; have hsb := HSB.out.below b7; clear s0 s1 s2 s3; obtain ⟨s0, s1, s2, s3⟩ := hsb.cells; replace BB := hid (BB.out.trans (b7.mono BB.out.size)); replace HW := hid (HP.out _ _ HW.out b7); clear b7 hsb)
    | (go_at_call 6; refine (HAW.out _ HW.out).mono ?_; rintro e w9 ⟨rfl, b9⟩; replace BB := hid (BB.out.trans (b9.mono BB.out.size)); clear b9)
   go_ret
   exact ⟨by simp, BB.out⟩
  | err er k y =>
   rw [hY] at CT CR CE CN
   obtain ⟨Kk, hKk⟩ : ∃ Kk, ba k = Kk := ⟨_, rfl⟩
   obtain ⟨Yy, hYy⟩ : ∃ Yy, ba y = Yy := ⟨_, rfl⟩
   replace CT : Hid (∀ (u : Value) (W : World), Pw W → VR W u x → Calls Tryd.prog 8 #[.string s, u] W fun e w' => e = .returned (.tuple #[.string ⟨#[]⟩, .int .i64 er]) ∧ Below W.heap.size W w') := CT
   replace CE : Hid (∀ (p u : Value) (W : World), Pw W → PtW W p ps → VR W u x → Calls Tryd.prog 11 #[p, u] W fun e w' => e = .returned (.tuple #[.string ⟨#[]⟩, .int .i64 er]) ∧ Below W.heap.size W w') := CE
   replace CN : Hid (∀ (p u : Value) (W : World), Pw W → PtW W p ps → VR W u x → Calls Tryd.prog 12 #[p, u] W fun e w' => e = .returned (.tuple #[.string Kk, .string Yy]) ∧ Below W.heap.size W w') := hid (by rw [← hKk, ← hYy]; exact CN.out)
   replace CR : Hid (∀ (u : Value) (W : World), VR W u x → Calls Tryd.prog 9 #[.string s, u] W fun e w' => e = .returned (.agg #[.string ⟨#[]⟩, .string Kk, .string Yy, .int .i64 er]) ∧ Below W.heap.size W w') := hid (by rw [← hKk, ← hYy]; exact CR.out)
   have hk1 := str_self Kk
   have hy1 := str_self Yy
   rcases sayL_key ps [] 1 hwf hY with ⟨rfl, hk⟩ | ⟨rfl, hk, hy⟩
   ·have hKn : Kk.data.toList ≠ [] := by rw [← hKk, ba_data]; exact hk
    have q0 : Kk.toList.isEmpty = false := by rw [ByteArray.toList_eq, List.isEmpty_eq_false_iff]; exact hKn
    have q0' : ¬ Kk.toList = [] := by rw [ByteArray.toList_eq]; exact hKn
    have q1 : (Kk.toList == []) = false := beq_eq_false_iff_ne.2 q0'
    have q2 : (Kk.toList != []) = true := bne_iff_ne.2 q0'
    clear HText HParse HRef HExpand HNeeds hw hPw F0 hX hR hx hES hl okl hf hs1 hwf hsz hKk hYy hY hk hKn
    go_enter Tryd.func3, Tryd.ntmps3
    go_wp2_with first
     | (go_at_call 5; refine F.out.mono ?_; rintro e w1 ⟨rfl, rfl⟩)
     | (go_at_call 7; refine HOF.out.mono ?_; rintro e w2 ⟨v2, rfl, hv2, b2⟩; have HV := hid hv2; have BB := hid b2; replace HW := hid (HP.out _ _ HW.out b2); clear hv2 b2)
     | (go_at_call 8; refine (CT.out _ _ HW.out HV.out).mono ?_; rintro e w3 ⟨rfl, b3⟩; replace HV := hid (HV.out.below b3); replace BB := hid (BB.out.trans (b3.mono BB.out.size)); replace HW := hid (HP.out _ _ HW.out b3); clear b3)
     | (go_at_call 9; refine (CR.out _ _ HV.out).mono ?_; rintro e w4 ⟨rfl, b4⟩; have bA : Below w4.heap.size w4 (w4.alloc (.cells #[.string ⟨#[]⟩, .string Kk, .string Yy, .int .i64 4] 30)) := (Below.refl _ _).alloc (Nat.le_refl _) _; replace HV := hid ((HV.out.below b4).below bA); have bT := b4.trans (bA.mono b4.size); replace BB := hid (BB.out.trans (bT.mono BB.out.size)); replace HW := hid (HP.out _ _ HW.out bT); have hsb := saidB_new w4 (.string ⟨#[]⟩) (.string Kk) (.string Yy) (.int .i64 4); obtain ⟨s0, s1, s2, s3⟩ := hsb.cells; have HSB := hid hsb; clear b4 bA bT hsb)
     | (go_at_call 10; refine (CP.out _ HW.out).mono ?_; rintro e w5 ⟨v5, rfl, hp5, b5⟩; have HPT := hid hp5; replace HSB := hid (HSB.out.below b5); replace HV := hid (HV.out.below b5); replace BB := hid (BB.out.trans (b5.mono BB.out.size)); replace HW := hid (HP.out _ _ HW.out b5); clear b5 hp5)
     | (go_at_call 11; refine (CE.out _ _ _ HW.out HPT.out HV.out).mono ?_; rintro e w6 ⟨rfl, b6⟩; replace HPT := hid (PtW.below HPT.out b6); replace HSB := hid (HSB.out.below b6); replace HV := hid (HV.out.below b6); replace BB := hid (BB.out.trans (b6.mono BB.out.size)); replace HW := hid (HP.out _ _ HW.out b6); clear b6)
     | (go_at_call 12; refine (CN.out _ _ _ HW.out HPT.out HV.out).mono ?_; rintro e w7 ⟨rfl, b7⟩; have hsb := HSB.out.below b7; clear s0 s1 s2 s3; obtain ⟨s0, s1, s2, s3⟩ := hsb.cells; replace BB := hid (BB.out.trans (b7.mono BB.out.size)); replace HW := hid (HP.out _ _ HW.out b7); clear b7 hsb)
     | (go_at_call 6; refine (HAW.out _ HW.out).mono ?_; rintro e w9 ⟨rfl, b9⟩; replace BB := hid (BB.out.trans (b9.mono BB.out.size)); clear b9)
    go_ret
    exact ⟨by simp, BB.out⟩
   ·have hK0 : Kk = ⟨#[]⟩ := by rw [← hKk, hk]; rfl
    have hY0 : Yy = ⟨#[]⟩ := by rw [← hYy, hy]; rfl
    subst hK0
    subst hY0
    clear HText HParse HRef HExpand HNeeds hw hPw F0 hX hR hx hES hl okl hf hs1 hwf hsz hKk hYy hY hk hy
    go_enter Tryd.func3, Tryd.ntmps3
    go_wp2_with first
     | (go_at_call 5; refine F.out.mono ?_; rintro e w1 ⟨rfl, rfl⟩)
     | (go_at_call 7; refine HOF.out.mono ?_; rintro e w2 ⟨v2, rfl, hv2, b2⟩; have HV := hid hv2; have BB := hid b2; replace HW := hid (HP.out _ _ HW.out b2); clear hv2 b2)
     | (go_at_call 8; refine (CT.out _ _ HW.out HV.out).mono ?_; rintro e w3 ⟨rfl, b3⟩; replace HV := hid (HV.out.below b3); replace BB := hid (BB.out.trans (b3.mono BB.out.size)); replace HW := hid (HP.out _ _ HW.out b3); clear b3)
     | (go_at_call 9; refine (CR.out _ _ HV.out).mono ?_; rintro e w4 ⟨rfl, b4⟩; have bA : Below w4.heap.size w4 (w4.alloc (.cells #[.string ⟨#[]⟩, .string ⟨#[]⟩, .string ⟨#[]⟩, .int .i64 9] 30)) := (Below.refl _ _).alloc (Nat.le_refl _) _; replace HV := hid ((HV.out.below b4).below bA); have bT := b4.trans (bA.mono b4.size); replace BB := hid (BB.out.trans (bT.mono BB.out.size)); replace HW := hid (HP.out _ _ HW.out bT); have hsb := saidB_new w4 (.string ⟨#[]⟩) (.string ⟨#[]⟩) (.string ⟨#[]⟩) (.int .i64 9); obtain ⟨s0, s1, s2, s3⟩ := hsb.cells; have HSB := hid hsb; clear b4 bA bT hsb)
     | (go_at_call 10; refine (CP.out _ HW.out).mono ?_; rintro e w5 ⟨v5, rfl, hp5, b5⟩; have HPT := hid hp5; replace HSB := hid (HSB.out.below b5); replace HV := hid (HV.out.below b5); replace BB := hid (BB.out.trans (b5.mono BB.out.size)); replace HW := hid (HP.out _ _ HW.out b5); clear b5 hp5)
     | (go_at_call 11; refine (CE.out _ _ _ HW.out HPT.out HV.out).mono ?_; rintro e w6 ⟨rfl, b6⟩; replace HPT := hid (PtW.below HPT.out b6); replace HSB := hid (HSB.out.below b6); replace HV := hid (HV.out.below b6); replace BB := hid (BB.out.trans (b6.mono BB.out.size)); replace HW := hid (HP.out _ _ HW.out b6); clear b6)
     | (go_at_call 12; refine (CN.out _ _ _ HW.out HPT.out HV.out).mono ?_; rintro e w7 ⟨rfl, b7⟩; have hsb := HSB.out.below b7; clear s0 s1 s2 s3; obtain ⟨s0, s1, s2, s3⟩ := hsb.cells; replace BB := hid (BB.out.trans (b7.mono BB.out.size)); replace HW := hid (HP.out _ _ HW.out b7); clear b7 hsb)
     | (go_at_call 6; refine (HAW.out _ HW.out).mono ?_; rintro e w9 ⟨rfl, b9⟩; replace BB := hid (BB.out.trans (b9.mono BB.out.size)); clear b9)
    go_ret
    exact ⟨by simp, BB.out⟩
end
end
end Go.Proofs.YtkcilmmaggmmoaaDoor
