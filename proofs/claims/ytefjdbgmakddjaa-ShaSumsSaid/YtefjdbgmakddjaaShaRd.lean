/- A slice of numbers that reads as a list, in whatever later world; the contract of the statement's 'same'. -/
import Derived.Test.YtefjdbgmakddjaaShaPrimes
import Derived.Test.YtefjdbgmakddjaaShaBits
import Derived.Lib.OwnBridge
import Derived.Sort.OwnSorted
import Derived.Deep.LoopGhost
import Derived.Laws.AppendOwnNone
import Derived.Maps.AppendAt
import Derived.WalkSpells
import Derived.RegionTactic
import Derived.ChangeAlike
namespace Go.Proofs.Ytefjdbgmakddjaa
open Go.RowKit Go.Sort Go.Lib
open Sh
set_option linter.unusedVariables false

/-- The slice v holds the elements of l. -/
def RE {α : Type} (enc : α → Value) (w : World) (v : Value) (l : List α) : Prop :=
  ∃ (a : Option Addr) (cap : Nat), v = .slice a l.length cap ∧ l.length ≤ cap ∧ cap ≤ maxLen ∧
    ((l = [] ∧ (a = none → cap = 0)) ∨ ∃ b, a = some ⟨b, 0, none⟩ ∧ b < w.heap.size ∧ ∀ j (h : j < l.length), w.cell? ⟨b, j, none⟩ = some (enc l[j]))
theorem RE.below {α : Type} {enc : α → Value} {w w' : World} {v : Value} {l : List α} (h : RE enc w v l) (hb : Below w.heap.size w w') : RE enc w' v l := by
  obtain ⟨a, cap, rfl, h1, h2, h3⟩ := h
  refine ⟨a, cap, rfl, h1, h2, ?_⟩
  rcases h3 with h3 | ⟨b, rfl, h4, h5⟩
  · exact .inl h3
  · exact .inr ⟨b, rfl, Nat.lt_of_lt_of_le h4 hb.size, fun j hj => (hb.cell (p := ⟨b, j, none⟩) h4).trans (h5 j hj)⟩
theorem re_empty {α : Type} {enc : α → Value} (w : World) (a : Option Addr) (cap : Nat) (h : cap ≤ maxLen) (hn : a = none → cap = 0) : RE enc w (.slice a 0 cap) [] := ⟨a, cap, rfl, Nat.zero_le _, h, .inl ⟨rfl, hn⟩⟩
theorem re_of_owns {α : Type} [Inhabited α] {enc : α → Value} {w : World} {base n : Nat} {e : TypeId} {v : Value} {l : List α} (h : w.ownsRow base e 1 v n (l.map enc)) : RE enc w v l := by
  have hl : l.length = n := by simpa using h.1
  by_cases hv : v = .slice none 0 0
  · subst hv
    rcases h.2 with ⟨_, h0⟩ | ⟨g, cap, cur, h0, _⟩
    · obtain rfl : l = [] := List.length_eq_zero_iff.1 (by omega)
      exact re_empty w none 0 (Nat.zero_le _) fun _ => rfl
    · cases h0
  · obtain ⟨g, cap, rfl, _, hg, h1, h2, _, hH⟩ := holds_of_ownsRow h hv
    subst hl
    refine ⟨_, cap, rfl, h1, h2, .inr ⟨g, rfl, hg, fun j hj => ?_⟩⟩
    have := (hH j (by simpa using hj)).1
    rw [getElem!_pos l.toArray j (by simpa using hj)] at this
    simpa using this
/-- A whole number of kind int. -/
def encN (n : Nat) : Value := .int .i64 (n : Int)
theorem belowN (w : World) (q : Nat) : Below w.heap.size w (w.drewN q) := ⟨rfl, rfl, rfl, Nat.le_refl _, fun _ _ => rfl⟩
theorem ret_b {a b : Bool} (h : a = b) : Ending.returned (.bool a) = .returned (.bool b) := by rw [h]

set_option maxHeartbeats 1600000 in
theorem same_any (v u : Value) (l m : List Nat) (w : World) (h : RE encN w v l) (k : RE encN w u m) :
    Calls Try.prog 7 #[v, u] w fun e w' => e = .returned (.bool (decide (l = m))) ∧ Below w.heap.size w w' := by
  obtain ⟨a, cap, rfl, h1, h2, h3⟩ := h
  obtain ⟨a2, cap2, rfl, k1, k2, k3⟩ := k
  unfold maxLen at h2 k2
  by_cases hlen : l.length = m.length
  · obtain ⟨n, hn⟩ : ∃ n, n = l.length := ⟨_, rfl⟩
    have hm : n = m.length := by omega
    have HN : Hid (n = l.length ∧ n = m.length) := Lib.hid ⟨hn, hm⟩
    rw [← hn, ← hm]
    rw [← hn] at h1
    rw [← hm] at k1
    clear hn hm hlen
    go_enter Try.func7, Try.ntmps7
    go_wp2
    go_loopw [5] (fun i wr => ∃ k : Nat, k ≤ n ∧ i = .int .i64 k ∧ (∀ j (hj : j < l.length) (hj' : j < m.length), j < k → l[j] = m[j]) ∧ Below w.heap.size w wr) (fun i _ => n - (intOf i).toNat)
    case atStart => exact ⟨0, Nat.zero_le _, rfl, fun j _ _ h => absurd h (Nat.not_lt_zero _), Below.refl _ _⟩
    case round =>
      obtain ⟨k, hk, rfl, hall, hbel⟩ := hrel
      have HA := Lib.hid hall; clear hall
      have HB := Lib.hid hbel; clear hbel
      by_cases hlt : k < n
      · have hl : Hid (k < l.length) := Lib.hid (by have := HN.out.1; omega)
        have hm : Hid (k < m.length) := Lib.hid (by have := HN.out.2; omega)
        rcases h3 with ⟨rfl, _⟩ | ⟨b, rfl, h4, h5⟩
        · exact absurd hl.out (Nat.not_lt_zero _)
        rcases k3 with ⟨rfl, _⟩ | ⟨b2, rfl, k4, k5⟩
        · exact absurd hm.out (Nat.not_lt_zero _)
        have hc : wr.cell? ⟨b, k, none⟩ = some (.int .i64 ((l[k]'hl.out : Nat) : Int)) := (HB.out.cell (p := ⟨b, k, none⟩) h4).trans (h5 k hl.out)
        have kc : wr.cell? ⟨b2, k, none⟩ = some (.int .i64 ((m[k]'hm.out : Nat) : Int)) := (HB.out.cell (p := ⟨b2, k, none⟩) k4).trans (k5 k hm.out)
        clear h5 k5
        have hltz : (k : Int) < (n : Int) := by omega
        by_cases he : l[k]'hl.out = m[k]'hm.out
        · have HE := Lib.hid he
          rw [← he] at kc
          clear he
          generalize (l[k]'hl.out) = x at hc kc
          go_wp2
          go_quiet (fail)
          go_wp2
          go_roundw
          case rel =>
            refine ⟨k + 1, by omega, by go_num, fun j hj hj' hjk => ?_, ?_⟩
            · rcases Nat.lt_succ_iff_lt_or_eq.1 hjk with h | rfl
              · exact HA.out j hj hj' h
              · exact HE.out
            · exact HB.out.trans ((belowN _ _).mono HB.out.size)
          case measure => simp [intOf]; omega
        · have HE := Lib.hid he
          generalize hx : (l[k]'hl.out) = x at hc he
          generalize hy : (m[k]'hm.out) = y at kc he
          have b1 : ((x : Int) == (y : Int)) = false := beq_eq_false_iff_ne.2 (by omega)
          clear he hx hy
          go_wp2
          go_quiet (fail)
          go_wp2
          go_ret
          exact ⟨ret_b (decide_eq_false fun e => HE.out (by subst e; rfl)).symm, HB.out.trans ((belowN _ _).mono HB.out.size)⟩
      · go_wp2
        go_ret
        refine ⟨ret_b (decide_eq_true (List.ext_getElem (by rw [← HN.out.1, ← HN.out.2]) fun j hj hj' => HA.out j hj hj' ?_)).symm, HB.out⟩
        have := HN.out.1
        omega
  · have H : Hid (l ≠ m) := Lib.hid fun e => hlen (by rw [e])
    have hz : ¬ (l.length : Int) = (m.length : Int) := by omega
    go_enter Try.func7, Try.ntmps7
    go_wp2
    go_ret
    exact ⟨ret_b (decide_eq_false H.out).symm, Below.refl _ _⟩
end Go.Proofs.Ytefjdbgmakddjaa
