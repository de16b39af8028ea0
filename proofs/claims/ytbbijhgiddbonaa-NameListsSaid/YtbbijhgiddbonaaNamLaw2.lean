/- NameLists: for all lists, Sorted, Both, Without, In, Same and At answer as the document's own answers do. -/
import Derived.Test.YtbbijhgiddbonaaNamAwake
import Derived.Test.YtbbijhgiddbonaaNamWithout2
import Derived.Test.YtbbijhgiddbonaaNamRsame
import Derived.Test.YtbbijhgiddbonaaNamRow
namespace Go.Proofs.Ytbbijhgiddbonaa
open Go.RowKit Go.Sort
open Nw
set_option linter.unusedVariables false

/-- A call that hands back a slice that reads as l, and turns nothing that was there. -/
def Gives (f : Nat) (args : Array Value) (w : World) (l : List L8) : Prop := Calls Try.prog f args w fun e w' => ∃ v, e = .returned v ∧ Rd w' v l ∧ Below w.heap.size w w'
theorem gives_of {f : Nat} {args : Array Value} {w : World} {l : List L8} (h : Calls Try.prog f args w fun e w' => ∃ v', e = .returned v' ∧ w'.ownsRow w.heap.size 9 1 v' l.length (l.map encStr) ∧ Below w.heap.size w w') : Gives f args w l :=
  h.mono fun e w' ⟨v, he, ho, hb⟩ => ⟨v, he, rd_of_owns ho, hb⟩
theorem Sorted_gives {v : Value} {l : List L8} {w : World} (h : Rd w v l) (hb : l.length ≤ 4398046511103) : Gives 15 #[v] w (sortL l) := gives_of (Sorted_own v l w h hb)
theorem RSorted_gives {v : Value} {l : List L8} {w : World} (h : Rd w v l) (hb : l.length ≤ 4398046511103) : Gives 16 #[v] w (sortL l) := gives_of (RSorted_own v l w h hb)
theorem Both_gives {v u : Value} {l m : List L8} {w : World} (h : Rd w v l) (k : Rd w u m) (hb : l.length + m.length ≤ 4398046511103) : Gives 17 #[v, u] w (sortL (l ++ m)) := gives_of (Both_own v u l m w h k hb)
theorem RBoth_gives {v u : Value} {l m : List L8} {w : World} (h : Rd w v l) (k : Rd w u m) (hb : l.length + m.length ≤ 4398046511103) : Gives 18 #[v, u] w (sortL (l ++ m)) := gives_of (RBoth_own v u l m w h k hb)
theorem Without_gives {v u : Value} {l m : List L8} {w : World} (h : Rd w v l) (k : Rd w u m) (hb : l.length ≤ 4398046511103) (hb2 : m.length ≤ 4398046511103) : Gives 19 #[v, u] w ((sortL l).filter (notIn m)) := gives_of (Without_own v u l m w h k hb hb2)
theorem RWithout_gives {v u : Value} {l m : List L8} {w : World} (h : Rd w v l) (k : Rd w u m) (hb : l.length ≤ 4398046511103) : Gives 20 #[v, u] w ((sortL l).filter (notIn m)) := gives_of (RWithout_own v u l m w h k hb)

theorem RSame_yes {v u : Value} {l : List L8} {w : World} (h : Rd w v l) (k : Rd w u l) : Calls Try.prog 14 #[v, u] w fun e w' => e = .returned (.bool true) ∧ Below w.heap.size w w' := by
  have := RSame_any v u l l w h k
  rwa [decide_eq_true rfl] at this
theorem Same_yes {v u : Value} {l : List L8} {w : World} (h : Rd w v l) (k : Rd w u l) : Calls Try.prog 23 #[v, u] w fun e w' => e = .returned (.bool true) ∧ Below w.heap.size w w' := by
  have := Same_any v u l l w h k
  rwa [decide_eq_true rfl] at this

set_option maxHeartbeats 8000000 in
theorem NameLists_walk (v u : Value) (l m : List L8) (s : ByteArray) (w : World) (h : Rd w v l) (k : Rd w u m) (hs : s.size ≤ maxLen) :
    Calls Try.prog 4 #[v, u, .string s] w fun e w' => e = .returned (.bool true) ∧ Below w.heap.size w w' := by
  have HL := Lib.hid h
  have HM := Lib.hid k
  have HFa : Hid (∀ W, Rd W v l → Calls Try.prog 13 #[v, .int .i64 60] W fun e w' => e = .returned (.bool (fewL l 60)) ∧ W = w') := Lib.hid fun W hW => Few_any v l 60 W hW (by omega) (by omega)
  have HFb : Hid (∀ W, Rd W u m → Calls Try.prog 13 #[u, .int .i64 60] W fun e w' => e = .returned (.bool (fewL m 60)) ∧ W = w') := Lib.hid fun W hW => Few_any u m 60 W hW (by omega) (by omega)
  obtain ⟨av, cv, rfl, _⟩ := h
  obtain ⟨au, cu, rfl, _⟩ := k
  cases hfa : fewL l 60 with
  | false =>
    rw [hfa] at HFa
    clear hfa
    go_enter Try.func4, Try.ntmps4
    go_wp2_with fail
    refine (HFa.out _ HL.out).mono ?_
    rintro e w' ⟨rfl, rfl⟩
    go_wp2_with fail
    refine (awake_any _).mono ?_
    rintro e w' ⟨rfl, hb⟩
    go_wp2
    go_ret
    exact ⟨rfl, hb⟩
  | true =>
  have HNa := Lib.hid (few_len hfa)
  rw [hfa] at HFa
  clear hfa
  cases hfb : fewL m 60 with
  | false =>
    rw [hfb] at HFb
    clear hfb
    go_enter Try.func4, Try.ntmps4
    go_wp2_with fail
    refine (HFa.out _ HL.out).mono ?_
    rintro e w' ⟨rfl, rfl⟩
    go_wp2_with fail
    refine (HFb.out _ HM.out).mono ?_
    rintro e w' ⟨rfl, rfl⟩
    go_wp2_with fail
    refine (awake_any _).mono ?_
    rintro e w' ⟨rfl, hb⟩
    go_wp2
    go_ret
    exact ⟨rfl, hb⟩
  | true =>
    have HNb := Lib.hid (few_len hfb)
    rw [hfb] at HFb
    clear hfb
    have HB0 : Hid (Below w.heap.size w w) := Lib.hid (Below.refl _ _)
    have na : Hid (l.length ≤ 4398046511103) := Lib.hid (by have := HNa.out; omega)
    have nb : Hid (m.length ≤ 4398046511103) := Lib.hid (by have := HNb.out; omega)
    have nab : Hid (l.length + m.length ≤ 4398046511103) := Lib.hid (by have := HNa.out; have := HNb.out; omega)
    have nba : Hid (m.length + l.length ≤ 4398046511103) := Lib.hid (by have := HNa.out; have := HNb.out; omega)
    have HIn := Lib.hid fun W (hW : Rd W (.slice av l.length cv) l) => In_any _ l s W hW
    have HRIn := Lib.hid fun W (hW : Rd W (.slice av l.length cv) l) => RIn_any _ l s W hW
    have HAt := Lib.hid fun W (hW : Rd W (.slice av l.length cv) l) => At_any _ l s W hW
    have HRAt := Lib.hid fun W (hW : Rd W (.slice av l.length cv) l) => RAt_any _ l s W hW
    have HSame := Lib.hid fun W (hW : Rd W (.slice av l.length cv) l) (hW' : Rd W (.slice au m.length cu) m) => Same_any _ _ l m W hW hW'
    have HRSame := Lib.hid fun W (hW : Rd W (.slice av l.length cv) l) (hW' : Rd W (.slice au m.length cu) m) => RSame_any _ _ l m W hW hW'
    generalize decide (s.data.toList ∈ l) = r1 at HIn HRIn
    generalize atL l s.data.toList = r3 at HAt HRAt
    generalize decide (l = m) = r2 at HSame HRSame
    cases r1 <;> cases r2
    all_goals
      go_enter Try.func4, Try.ntmps4
      go_wp2_with fail
      refine (HFa.out _ HL.out).mono ?_
      rintro e w' ⟨rfl, rfl⟩
      go_wp2_with fail
      refine (HFb.out _ HM.out).mono ?_
      rintro e w' ⟨rfl, rfl⟩
      go_wp2_with fail
      refine (Sorted_gives (HL.out.below HB0.out) na.out).mono ?_
      rintro e w1 ⟨x1, rfl, r1, b1⟩
      have HB1 : Hid (Below w.heap.size w w1) := Lib.hid (HB0.out.trans (b1.mono HB0.out.size))
      have R1 := Lib.hid r1
      have D1 := Lib.hid b1
      clear r1 b1
      go_wp2_with fail
      refine (RSorted_gives (HL.out.below HB1.out) na.out).mono ?_
      rintro e w2 ⟨x2, rfl, r2, b2⟩
      have HB2 : Hid (Below w.heap.size w w2) := Lib.hid (HB1.out.trans (b2.mono HB1.out.size))
      have R2 := Lib.hid r2
      have D2 := Lib.hid b2
      clear r2 b2
      go_wp2_with fail
      refine (RSame_yes (R1.out.below D2.out) R2.out).mono ?_
      rintro e w3 ⟨rfl, b3⟩
      have HB3 : Hid (Below w.heap.size w w3) := Lib.hid (HB2.out.trans (b3.mono HB2.out.size))
      have D3 := Lib.hid b3
      clear b3
      go_wp2_with fail
      refine (Both_gives (HL.out.below HB3.out) (HM.out.below HB3.out) nab.out).mono ?_
      rintro e w4 ⟨x4, rfl, r4, b4⟩
      have HB4 : Hid (Below w.heap.size w w4) := Lib.hid (HB3.out.trans (b4.mono HB3.out.size))
      have R4 := Lib.hid r4
      have D4 := Lib.hid b4
      clear r4 b4
      go_wp2_with fail
      refine (RBoth_gives (HL.out.below HB4.out) (HM.out.below HB4.out) nab.out).mono ?_
      rintro e w5 ⟨x5, rfl, r5, b5⟩
      have HB5 : Hid (Below w.heap.size w w5) := Lib.hid (HB4.out.trans (b5.mono HB4.out.size))
      have R5 := Lib.hid r5
      have D5 := Lib.hid b5
      clear r5 b5
      go_wp2_with fail
      refine (RSame_yes (R4.out.below D5.out) R5.out).mono ?_
      rintro e w6 ⟨rfl, b6⟩
      have HB6 : Hid (Below w.heap.size w w6) := Lib.hid (HB5.out.trans (b6.mono HB5.out.size))
      have D6 := Lib.hid b6
      clear b6
      go_wp2_with fail
      refine (Without_gives (HL.out.below HB6.out) (HM.out.below HB6.out) na.out nb.out).mono ?_
      rintro e w7 ⟨x7, rfl, r7, b7⟩
      have HB7 : Hid (Below w.heap.size w w7) := Lib.hid (HB6.out.trans (b7.mono HB6.out.size))
      have R7 := Lib.hid r7
      have D7 := Lib.hid b7
      clear r7 b7
      go_wp2_with fail
      refine (RWithout_gives (HL.out.below HB7.out) (HM.out.below HB7.out) na.out).mono ?_
      rintro e w8 ⟨x8, rfl, r8, b8⟩
      have HB8 : Hid (Below w.heap.size w w8) := Lib.hid (HB7.out.trans (b8.mono HB7.out.size))
      have R8 := Lib.hid r8
      have D8 := Lib.hid b8
      clear r8 b8
      go_wp2_with fail
      refine (RSame_yes (R7.out.below D8.out) R8.out).mono ?_
      rintro e w9 ⟨rfl, b9⟩
      have HB9 : Hid (Below w.heap.size w w9) := Lib.hid (HB8.out.trans (b9.mono HB8.out.size))
      have D9 := Lib.hid b9
      clear b9
      go_wp2_with fail
      refine (HIn.out _ (HL.out.below HB9.out)).mono ?_
      rintro e w' ⟨rfl, rfl⟩
      go_wp2_with fail
      refine (HRIn.out _ (HL.out.below HB9.out)).mono ?_
      rintro e w' ⟨rfl, rfl⟩
      go_wp2_with fail
      refine (HSame.out _ (HL.out.below HB9.out) (HM.out.below HB9.out)).mono ?_
      rintro e w10 ⟨rfl, b10⟩
      have HB10 : Hid (Below w.heap.size w w10) := Lib.hid (HB9.out.trans (b10.mono HB9.out.size))
      have D10 := Lib.hid b10
      clear b10
      go_wp2_with fail
      refine (HRSame.out _ (HL.out.below HB10.out) (HM.out.below HB10.out)).mono ?_
      rintro e w11 ⟨rfl, b11⟩
      have HB11 : Hid (Below w.heap.size w w11) := Lib.hid (HB10.out.trans (b11.mono HB10.out.size))
      have D11 := Lib.hid b11
      clear b11
      go_wp2_with fail
      refine (HAt.out _ (HL.out.below HB11.out)).mono ?_
      rintro e w' ⟨rfl, rfl⟩
      go_wp2_with fail
      refine (HRAt.out _ (HL.out.below HB11.out)).mono ?_
      rintro e w' ⟨rfl, rfl⟩
      go_wp2_with fail
      refine (awake_any _).mono ?_
      rintro e w12 ⟨rfl, b12⟩
      have HB12 : Hid (Below w.heap.size w w12) := Lib.hid (HB11.out.trans (b12.mono HB11.out.size))
      have D12 := Lib.hid b12
      clear b12
      go_wp2
      go_ret
      exact ⟨rfl, HB12.out⟩

end Go.Proofs.Ytbbijhgiddbonaa
