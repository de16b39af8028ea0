/- The contracts of the program's find, Get and child. -/
import Derived.Test.YtgingebdoppdbaaRefNod7
import Derived.Test.YtgingebdoppdbaaNodDig
import Derived.Test.YtgingebdoppdbaaNodMeas
namespace Go.Proofs.Ytgingebdoppdbaa
open Go.RowKit Go.Sort
open Nw N8
open Dg
set_option linter.unusedVariables false
namespace N8
/-- Where a key stands first, or nowhere. -/
theorem first_or : ∀ (l : List L8) (x : L8), (∃ (j : Nat) (h : j < l.length), l[j]'h = x ∧ ∀ (i : Nat) (hi : i < l.length), i < j → l[i]'hi ≠ x) ∨ ∀ (i : Nat) (hi : i < l.length), l[i]'hi ≠ x
  | [], x => .inr fun i hi => absurd hi (Nat.not_lt_zero _)
  | k :: l, x => by
    by_cases hk : k = x
    · exact .inl ⟨0, Nat.succ_pos _, hk, fun i _ h => absurd h (Nat.not_lt_zero _)⟩
    · rcases first_or l x with ⟨j, h, e, hn⟩ | hn
      · refine .inl ⟨j + 1, Nat.succ_lt_succ h, e, fun i hi hij => ?_⟩
        cases i with
        | zero => exact hk
        | succ i => exact hn i (Nat.lt_of_succ_lt_succ hi) (Nat.lt_of_succ_lt_succ hij)
      · refine .inr fun i hi => ?_
        cases i with
        | zero => exact hk
        | succ i => exact hn i (Nat.lt_of_succ_lt_succ hi)
/-- What the program's find answers. -/
inductive FoundK (d : Nd) (x : L8) : Int → Prop
  | no (h : getT d x = none) (hk : d.kind = 3 → ∀ (i : Nat) (hi : i < d.keys.length), d.keys[i]'hi ≠ x) : FoundK d x (-1)
  | yes (j : Nat) (hk : d.kind = 3) (hj : j < d.keys.length) (hd : j < d.kids.length) (he : d.keys[j]'hj = x) (hn : ∀ (i : Nat) (hi : i < d.keys.length), i < j → d.keys[i]'hi ≠ x) (h : getT d x = some (d.kids[j]'hd)) : FoundK d x (j : Int)
end N8
set_option maxHeartbeats 4000000 in
theorem find_any (d : Nd) (x : ByteArray) (hl : d.kind = 3 → d.keys.length = d.kids.length) (c0 c1 c2 c3 : Value) (w : World) (hd : NdW w d c0 c1 c2 c3) :
    Calls Try.prog 34 #[.agg #[c0, c1, c2, c3], .string x] w fun e w' => ∃ r : Int, e = .returned (.int .i64 r) ∧ FoundK d x.data.toList r ∧ Below w.heap.size w w' := by
  have HB0 := Lib.hid (Boxed.make hd)
  cases d with
  | mk k t ks ds =>
    obtain ⟨rfl, rfl, hks, A, cap, rfl, hcap, hm, -, -⟩ := hd.parts
    obtain ⟨x0, x1, x2, x3⟩ := HB0.out.2.1.cells
    obtain ⟨T, hT⟩ : ∃ T, ba t = T := ⟨_, rfl⟩
    rw [hT] at HB0 x1 x0 x2 x3 ⊢
    by_cases hk : k = 3
    · subst hk
      have hlen : ks.length = ds.length := hl rfl
      have HAT := Lib.hid (At_any c2 ks x _ HB0.out.keys)
      obtain ⟨a, kcap, rfl, hkc, hkm⟩ := rd_slice hks
      unfold maxLen at hm
      have HF : Hid (∀ r, atL ks x.data.toList = r → (r < (ds.length : Int) ∧ -1 ≤ r ∧ FoundK (.mk 3 t ks ds) x.data.toList r)) := Lib.hid (by
        rintro r rfl
        rcases first_or ks x.data.toList with ⟨j, hj, he, hn⟩ | hn
        · have hjd : j < ds.length := by rw [← hlen]; exact hj
          rw [atL_hit hj he fun i hi hij => hn i hi hij]
          exact ⟨by omega, by omega, .yes j rfl hj hjd he hn (getK_hit j hj hjd hn he)⟩
        · rw [atL_miss fun i hi => hn i hi]
          exact ⟨by omega, by omega, .no (getK_miss hn) fun _ => hn⟩)
      obtain ⟨r, hr⟩ : ∃ r, atL ks x.data.toList = r := ⟨_, rfl⟩
      have HR := Lib.hid hr
      rw [hr] at HAT
      obtain ⟨f1, f2, f3⟩ := HF.out r hr
      have HFF := Lib.hid f3
      have hn63 : ds.length ≤ 9223372036854775807 := by omega
      generalize ds.length = n at *
      have g1 : ¬ (n : Int) ≤ r := by omega
      clear f3 hr hks HF hd hT hl hlen
      generalize ks.length = m at *
      go_enter Try.func34, Try.ntmps34
      go_wp2_with (go_at_call 50; refine HAT.out.mono ?_; rintro e w2 ⟨rfl, rfl⟩)
      go_ret
      exact ⟨_, rfl, HFF.out, HB0.out.1⟩
    · have p1 : (k != 3) = true := bne_iff_ne.2 hk
      have HFF : Hid (FoundK (.mk k t ks ds) x.data.toList (-1)) := Lib.hid (.no (by unfold getT; exact if_neg hk) fun h => absurd h hk)
      clear hk hd hT hl hks
      generalize ds.length = n at *
      go_enter Try.func34, Try.ntmps34
      go_wp2
      go_ret
      exact ⟨_, rfl, HFF.out, HB0.out.1⟩
end Go.Proofs.Ytgingebdoppdbaa
