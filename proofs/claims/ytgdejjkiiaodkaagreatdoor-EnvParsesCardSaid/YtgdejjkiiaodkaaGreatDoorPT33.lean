/- EnvLaw1 -/
import Derived.Deep.RegionHeld
import Derived.Laws.Runes
import Derived.Test.YtgdejjkiiaodkaaGreatDoorPT20
import Derived.Test.YtgdejjkiiaodkaaGreatDoorPT22
import Derived.Test.YtgdejjkiiaodkaaGreatDoorPT32
set_option linter.unusedVariables false
set_option linter.unusedSimpArgs false
set_option maxRecDepth 100000
set_option maxHeartbeats 16000000
open Go.Lib (hid)
namespace Go.Proofs.YtgdejjkiiaodkaaGreatDoor
section
open Go.RowKit Go.Sort
open Nw V12 Q6
def exA : L8 := [35, 32, 97, 10, 101, 120, 112, 111, 114, 116, 32, 88, 61, 49, 32, 35, 32, 115, 111, 10, 89, 61, 39, 97, 32, 98, 39, 10]
def exA1 : L8 := [101, 120, 112, 111, 114, 116, 32, 88, 61, 49, 32, 35, 32, 115, 111, 10, 89, 61, 39, 97, 32, 98, 39, 10]
def exA2 : L8 := [89, 61, 39, 97, 32, 98, 39, 10]
def exKV : List KV := [([88], [49]), ([89], [97, 32, 98])]
def exB : L8 := [88, 61, 49, 10, 89, 10]
theorem ex_ok : EnvOk exKV := ⟨by unfold Asc exKV; simp; decide, fun p hp => by
 simp only [exKV, List.mem_cons, List.not_mem_nil, or_false] at hp
 rcases hp with rfl | rfl <;> decide⟩
theorem ex_parA : parV exA = (exKV, 0, 0) := by
 have e1 : goV 0 [] exA = goV 1 [] exA1 := (goV_next (o := none) (by decide) (by decide +kernel)).trans (by rw [show exA.drop (befN 10 exA + 1) = exA1 by decide +kernel]; rfl)
 have e2 : goV 1 [] exA1 = goV 2 [([88], [49])] exA2 := (goV_next (o := some ([88], [49])) (by decide) (by decide +kernel)).trans (by rw [show exA1.drop (befN 10 exA1 + 1) = exA2 by decide +kernel]; rfl)
 have e3 : goV 2 [([88], [49])] exA2 = goV 3 exKV [] := (goV_next (o := some ([89], [97, 32, 98])) (by decide) (by decide +kernel)).trans (by rw [show exA2.drop (befN 10 exA2 + 1) = [] by decide +kernel]; rfl)
 unfold parV
 rw [if_neg (by decide), e1, e2, e3, goV_nil, gath_env ex_ok, if_neg (by decide)]
theorem ex_parB : parV exB = ([], 2, 3) := by
 have e1 : goV 0 [] exB = goV 1 [([88], [49])] [89, 10] := (goV_next (o := some ([88], [49])) (by decide) (by decide +kernel)).trans (by rw [show exB.drop (befN 10 exB + 1) = [89, 10] by decide +kernel]; rfl)
 have e2 : goV 1 [([88], [49])] [89, 10] = ([], 2, 3) := goV_bad (by decide) (by decide +kernel)
 unfold parV
 rw [if_neg (by decide), e1, e2]
theorem vr_new (w : World) (l : List KV) (h : l.length ≤ maxLen) : VR (w.alloc (.cells (cellsV l).toArray 38)) (.slice (some ⟨w.heap.size, 0, none⟩) l.length l.length) l :=
 (vr_of_owns (base := w.heap.size) (n := l.length) (e := 38) ⟨cellsV_len l, .inr ⟨w.heap.size, l.length, (cellsV l).toArray, rfl, Nat.le_refl _, Array.getElem?_push_size (xs := w.heap), Nat.le_refl _, h, by simp [cellsV_len], by have e := List.take_length (l := cellsV l); rw [cellsV_len] at e; simp [e]⟩⟩).1
section
variable (Pw : World → Prop) (hPw : ∀ w w', Pw w → Below w.heap.size w w' → Pw w')
variable (HParse : ∀ (s : ByteArray) (W : World), Pw W → s.size ≤ 100000 → Calls Tryz.prog 16 #[.string s] W (GivesPar (parV s.data.toList) W))
include hPw HParse
theorem Awake12 (w : World) (hw : Pw w) : Calls Tryz.prog 7 #[] w fun e w' => e = .returned (.bool true) ∧ Below w.heap.size w w' := by
 have HA : Hid (∀ W, Pw W → Calls Tryz.prog 16 #[.string ⟨#[35, 32, 97, 10, 101, 120, 112, 111, 114, 116, 32, 88, 61, 49, 32, 35, 32, 115, 111, 10, 89, 61, 39, 97, 32, 98, 39, 10]⟩] W fun e w' => ∃ v, e = .returned (.tuple #[v, .int .i64 0, .int .i64 0]) ∧ VR w' v exKV ∧ Below W.heap.size W w') := hid (fun W h => by
  refine (HParse ⟨exA.toArray⟩ W h (by decide)).mono ?_
  rintro e w' ⟨v, he, hv, hb⟩
  rw [show (⟨exA.toArray⟩ : ByteArray).data.toList = exA from rfl, ex_parA] at he hv
  exact ⟨v, he, hv, hb⟩)
 have HB : Hid (∀ W, Pw W → Calls Tryz.prog 16 #[.string ⟨#[88, 61, 49, 10, 89, 10]⟩] W fun e w' => ∃ v, e = .returned (.tuple #[v, .int .i64 2, .int .i64 3]) ∧ Below W.heap.size W w') := hid (fun W h => by
  refine (HParse ⟨exB.toArray⟩ W h (by decide)).mono ?_
  rintro e w' ⟨v, he, hv, hb⟩
  rw [show (⟨exB.toArray⟩ : ByteArray).data.toList = exB from rfl, ex_parB] at he hv
  exact ⟨v, he, hb⟩)
 have HW := hid hw
 have HP := hid hPw
 clear HParse hw hPw
 go_enter Tryz.func7, Tryz.ntmps7
 go_wp2_with first
  | (go_at_call 16; with_reducible refine (HA.out _ HW.out).mono ?_; rintro e w1 ⟨v1, rfl, h1, b1⟩; have HV1 := hid h1; have B1 := hid b1; clear h1 b1)
  | (go_at_call 16; with_reducible refine (HB.out _ (HP.out _ _ HW.out B1.out)).mono ?_; rintro e w2 ⟨v2, rfl, b2⟩; have B2 := hid b2; clear b2)
  | (go_at_call 11; refine (RSame12_any _ _ exKV exKV _ ((HV1.out.below B2.out).below ((Below.refl _ _).alloc (Nat.le_refl _) _)) (vr_new _ exKV (by unfold maxLen; decide))).mono ?_; rintro e w3 ⟨rfl, b3⟩; have B3 := hid b3; clear b3)
 go_ret
 exact ⟨by simp, B1.out.trans ((B2.out.trans (((Below.refl _ _).alloc (Nat.le_refl _) _).trans (B3.out.mono (by simp)) |>.mono B2.out.size)).mono B1.out.size)⟩
end
end
end Go.Proofs.YtgdejjkiiaodkaaGreatDoor
