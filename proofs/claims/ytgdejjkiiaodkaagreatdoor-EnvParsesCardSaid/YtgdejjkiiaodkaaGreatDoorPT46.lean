/- EnvLaw2, EnvGet, EnvTxt, EnvEnd -/
import Derived.Deep.RegionHeld
import Derived.Deep.RegionHeld3
import Derived.Laws.AppendOwnNone
import Derived.Laws.Cover1
import Derived.Laws.Runes
import Derived.Lib.OthersKept
import Derived.LoopIn
import Derived.LoopNIn
import Derived.OwnWalkIn
import Derived.RangeFuncBox
import Derived.RangeFuncFrom
import Derived.RangeFuncLeaves
import Derived.Shelf.Abstract
import Derived.Shelf.Lay
import Derived.Shelf.Spec.SlicesGrow
import Derived.Shelf.Strings.BuilderK
import Derived.TacticsInMore
import Derived.Test.YtgdejjkiiaodkaaGreatDoorPT12
import Derived.Test.YtgdejjkiiaodkaaGreatDoorPT20
import Derived.Test.YtgdejjkiiaodkaaGreatDoorPT22
import Derived.Test.YtgdejjkiiaodkaaGreatDoorPT3
import Derived.Test.YtgdejjkiiaodkaaGreatDoorPT32
import Derived.Test.YtgdejjkiiaodkaaGreatDoorPT33
import Derived.Test.YtgdejjkiiaodkaaGreatDoorPT45
import Derived.Test.YtgdejjkiiaodkaaGreatDoorPT9
import Derived.Test.YtgdejjkiiaodkaaGreatDoorProg
set_option linter.unusedVariables false
set_option linter.unusedSimpArgs false
set_option maxRecDepth 100000
set_option maxHeartbeats 16000000
open Go.Lib (hid)
namespace Go.Proofs.YtgdejjkiiaodkaaGreatDoor
section
open Go.RowKit Go.Sort
open Nw V12 Q6
section
variable (Pw : World → Prop) (hPw : ∀ w w', Pw w → Below w.heap.size w w' → Pw w')
variable (HParse : ∀ (s : ByteArray) (W : World), Pw W → s.size ≤ 100000 → Calls Tryz.prog 16 #[.string s] W (GivesPar (parV s.data.toList) W))
include hPw HParse
theorem EnvParses_walk (s : ByteArray) (w : World) (hw : Pw w) (hs : s.size ≤ maxLen) : Calls Tryz.prog 4 #[.string s] w fun e w' => e = .returned (.bool true) ∧ Below w.heap.size w w' := by
 have HAW := hid (fun W hW => Awake12 Pw hPw HParse W hW)
 have HW := hid hw
 have HP := hid hPw
 unfold maxLen at hs
 by_cases hl : (9000 : Int) < (s.size : Int)
 ·clear HParse hw hPw
  go_enter Tryz.func4, Tryz.ntmps4
  go_wp2_with (go_at_call 7; refine (HAW.out _ HW.out).mono ?_; rintro e w1 ⟨rfl, b1⟩)
  go_ret
  exact ⟨rfl, b1⟩
 ·have HA := hid (fun W hW => HParse s W hW (by omega))
  have HR := hid (fun W => RParse12_any s W (by omega))
  obtain ⟨⟨l, no, E⟩, hR⟩ : ∃ R : List KV × Nat × Int, parV s.data.toList = R := ⟨_, rfl⟩
  rw [hR] at HA HR
  clear HParse hw hPw hR
  have hne : ((no : Int) == (no : Int)) = true := beq_self_eq_true _
  have hnE : (E == E) = true := beq_self_eq_true _
  go_enter Tryz.func4, Tryz.ntmps4
  go_wp2_with first
   | (go_at_call 16; refine (HA.out _ HW.out).mono ?_; rintro e w1 ⟨v1, rfl, h1, b1⟩; have HV1 := hid h1; have B1 := hid b1; clear h1 b1)
   | (go_at_call 17; refine (HR.out _).mono ?_; rintro e w2 ⟨v2, rfl, h2, b2⟩; have HV2 := hid h2; have B2 := hid b2; clear h2 b2)
   | (go_at_call 11; refine (RSame12_any _ _ l l _ (HV1.out.below B2.out) HV2.out).mono ?_; rintro e w3 ⟨rfl, b3⟩; have B3 := hid ((B1.out.trans ((B2.out.trans (b3.mono B2.out.size)).mono B1.out.size))); clear b3; rw [decide_eq_true rfl])
   | (go_at_call 7; refine (HAW.out _ (HP.out _ _ HW.out B3.out)).mono ?_; rintro e w4 ⟨rfl, b4⟩; have B4 := hid b4; clear b4)
  go_ret
  exact ⟨rfl, B3.out.trans (B4.out.mono B3.out.size)⟩
end
end
section
open Go.RowKit Go.Shelf Go.Sort
open Nw V12 Go.ChangeShapes Go.WideShapes
attribute [local go_sem] Oper.semAt_some
end
section
open Go.RowKit Go.Sort
open Nw V12 Q6
attribute [local go_sem] Oper.semAt_some
end
section
open Go.RowKit Go.Sort
open Nw V12 Q6
theorem max_keep (w w' : World) (h : SomeMax w) (hb : Below w.heap.size w w') : SomeMax w' := h.keep hb
theorem EnvParses_row (s : ByteArray) (w : World) (hw : SomeMax w) (hs : s.size ≤ maxLen) : Calls Tryz.prog 4 #[.string s] w fun e w' => e = .returned (.bool true) ∧ Below w.heap.size w w' :=
 EnvParses_walk SomeMax max_keep (fun s W h hs => Parse_any12 s W h hs) s w hw hs
end
end Go.Proofs.YtgdejjkiiaodkaaGreatDoor
