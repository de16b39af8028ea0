/- Chapter 4's example. -/
import Derived.Test.YtagccngcedblhaaDoorSizParse
import Derived.Test.YtagccngcedblhaaDoorSizText
namespace Go.Proofs.YtagccngcedblhaaDoor
open Go.RowKit
open Dg
set_option linter.unusedVariables false
theorem belowNext {w w1 w2 : World} (h : Below w.heap.size w w1) (g : Below w1.heap.size w1 w2) : Below w.heap.size w w2 := h.trans (g.mono h.size)
theorem dgw_64 : dgw 1 64 = [54, 52] := by rw [dgw_big (by decide), dgw_small (by decide)]; rfl
theorem zT_64k : zT 65536 = [54, 52, 107] := by
  have h : zT ((65536 : Nat) : Int) = zTN 65536 := zT_in (by decide)
  rw [show ((65536 : Nat) : Int) = 65536 from rfl] at h
  rw [h]
  unfold zTN
  rw [show 65536 / bz 65536 = 64 from rfl, show ltz 65536 = [107] from rfl, dgw_64]; rfl
theorem z_64kb : zN [54, 52, 107, 98] = 65536 ∧ zE [54, 52, 107, 98] = 0 := by
  have hu : uz (tlD [54, 52, 107, 98]) = 1024 := rfl
  obtain ⟨e1, e2⟩ := z_at hu (by decide)
  rw [e1, e2, show hdD [54, 52, 107, 98] = [54, 52] from rfl]
  rcases count_cases [54, 52] (1125899906842624 / 1024) with ⟨h, -⟩ | ⟨-, -, a, b⟩ | ⟨-, hv, -⟩
  · exact absurd h (by decide)
  · rw [a, b]; exact ⟨rfl, rfl⟩
  · rw [show val [54, 52] = 64 from rfl] at hv; omega
theorem z_1t : zN [49, 116] = 0 ∧ zE [49, 116] = 3 := z_no rfl
theorem ZParse_q (s : ByteArray) (n e0 : Int) (w : World) (hL : Let4 w) (hs : s.size ≤ maxLen) (hn : zN s.data.toList = n) (he : zE s.data.toList = e0) :
    Calls Tryd.prog 7 #[.string s] w fun e w' => e = .returned (.tuple #[.int .i64 n, .int .i64 e0]) ∧ Below w.heap.size w w' := by
  subst hn; subst he; exact ZParse_any s w hL hs
theorem ZText_q (n : Int) (q : ByteArray) (w : World) (hL : Let4 w) (h1 : -9223372036854775808 ≤ n) (h2 : n ≤ 9223372036854775807) (hq : zT n = q.data.toList) :
    Calls Tryd.prog 9 #[.int .i64 n] w fun e w' => e = .returned (.string q) ∧ Below w.heap.size w w' :=
  (ZText_any n w hL h1 h2).mono fun e w' ⟨g1, g2⟩ => ⟨by rw [g1, mk_of hq], g2⟩
set_option maxHeartbeats 1000000 in
theorem zawake_any (w : World) (hL : Let4 w) : Calls Tryd.prog 6 #[] w fun e w' => e = .returned (.bool true) ∧ Below w.heap.size w w' := by
  have HL := Lib.hid hL
  clear hL
  go_enter Tryd.func6, Tryd.ntmps6
  go_wp2_with fail
  refine (ZParse_q ⟨#[54, 52, 107, 98]⟩ 65536 0 _ HL.out (by decide) z_64kb.1 z_64kb.2).mono ?_
  rintro e w1 ⟨rfl, hb1⟩
  have hL1 := Lib.hid (HL.out.keep hb1)
  go_wp2_with fail
  refine (ZParse_q ⟨#[49, 116]⟩ 0 3 _ hL1.out (by decide) z_1t.1 z_1t.2).mono ?_
  rintro e w2 ⟨rfl, hb2⟩
  have hL2 := Lib.hid (hL1.out.keep hb2)
  have b2 := belowNext hb1 hb2
  clear hb1 hb2
  go_wp2_with fail
  refine (ZText_q 65536 ⟨#[54, 52, 107]⟩ _ hL2.out (by decide) (by decide) zT_64k).mono ?_
  rintro e w3 ⟨rfl, hb3⟩
  go_wp2
  go_ret
  exact ⟨rfl, belowNext b2 hb3⟩
end Go.Proofs.YtagccngcedblhaaDoor
