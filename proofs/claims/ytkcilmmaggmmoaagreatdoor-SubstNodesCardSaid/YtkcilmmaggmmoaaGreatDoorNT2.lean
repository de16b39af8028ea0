/- NamRd, NamRsame, NamRsortMath -/
import Derived.Below
import Derived.BigQuiet
import Derived.ChangeAlike
import Derived.Deep.LoopGhost
import Derived.Deep.QuietTactic
import Derived.Lib.Hide
import Derived.Lib.OwnBridge
import Derived.ProofKit
import Derived.RegionTactic
import Derived.Shelf.Small.Strs
import Derived.Sort.OwnSorted
import Derived.Test.YtkcilmmaggmmoaaGreatDoorNT1
import Derived.Test.YtkcilmmaggmmoaaGreatDoorRows
import Derived.WalkKit
set_option linter.unusedVariables false
set_option linter.unusedSimpArgs false
set_option maxRecDepth 100000
set_option maxHeartbeats 16000000
open Go.Lib (hid)
namespace Go.Proofs.YtkcilmmaggmmoaaGreatDoor
namespace Nw
end Nw
end Go.Proofs.YtkcilmmaggmmoaaGreatDoor
namespace Go.Proofs.YtkcilmmaggmmoaaGreatDoor
section
open Go.RowKit Go.Sort Go.Lib
open Nw
def ba (x : L8) : ByteArray := ⟨x.toArray⟩
theorem ba_data (x : L8) : (ba x).data.toList = x := by simp [ba]
theorem ba_list (x : L8) : (ba x).toList = x := by rw [ByteArray.toList_eq, ba_data]
theorem ba_of (s : ByteArray) : ba s.data.toList = s := by cases s; simp [ba]
theorem encStr_ba (x : L8) : encStr x = .string (ba x) := rfl
def Rd (w : World) (v : Value) (l : List L8) : Prop :=
 ∃ (a : Option Addr) (cap : Nat), v = .slice a l.length cap ∧ l.length ≤ cap ∧ cap ≤ maxLen ∧
  ((l = [] ∧ (a = none → cap = 0)) ∨ ∃ b o, a = some ⟨b, o, none⟩ ∧ b < w.heap.size ∧ ∀ j (h : j < l.length), w.cell? ⟨b, o + j, none⟩ = some (.string (ba l[j])))
theorem Rd.below {w w' : World} {v : Value} {l : List L8} (h : Rd w v l) (hb : Below w.heap.size w w') : Rd w' v l := by
 obtain ⟨a, cap, rfl, h1, h2, h3⟩ := h
 refine ⟨a, cap, rfl, h1, h2, ?_⟩
 rcases h3 with h3 | ⟨b, o, rfl, h4, h5⟩
 ·exact .inl h3
 ·exact .inr ⟨b, o, rfl, Nat.lt_of_lt_of_le h4 hb.size, fun j hj => (hb.cell (p := ⟨b, o + j, none⟩) h4).trans (h5 j hj)⟩
theorem rd_empty (w : World) (a : Option Addr) (cap : Nat) (h : cap ≤ maxLen) (hn : a = none → cap = 0) : Rd w (.slice a 0 cap) [] := ⟨a, cap, rfl, Nat.zero_le _, h, .inl ⟨rfl, hn⟩⟩
theorem rd_of_owns {w : World} {base n : Nat} {e : TypeId} {v : Value} {l : List L8} (h : w.ownsRow base e 1 v n (l.map encStr)) : Rd w v l := by
 have hl : l.length = n := by simpa using h.1
 by_cases hv : v = .slice none 0 0
 ·subst hv
  rcases h.2 with ⟨_, h0⟩ | ⟨g, cap, cur, h0, _⟩
  ·obtain rfl : l = [] := List.length_eq_zero_iff.1 (by omega)
   exact rd_empty w none 0 (Nat.zero_le _) fun _ => rfl
  ·cases h0
 ·obtain ⟨g, cap, rfl, _, hg, h1, h2, _, hH⟩ := holds_of_ownsRow h hv
  subst hl
  refine ⟨_, cap, rfl, h1, h2, .inr ⟨g, 0, rfl, hg, fun j hj => ?_⟩⟩
  have := (hH j (by simpa using hj)).1
  rw [getElem!_pos l.toArray j (by simpa using hj)] at this
  have h2 : w.cell? ⟨g, 0 + j, none⟩ = some (encStr l[j]) := by simpa using this
  exact h2
theorem below_drewN (w : World) (q : Nat) : Below w.heap.size w (w.drewN q) := ⟨rfl, rfl, rfl, Nat.le_refl _, fun _ _ => rfl⟩
theorem str_eq_true {x : L8} {s : ByteArray} (h : x = s.data.toList) : ((ba x).toList == s.toList) = true := by rw [ba_list, ByteArray.toList_eq, h]; exact beq_self_eq_true _
theorem str_eq_false {x : L8} {s : ByteArray} (h : x ≠ s.data.toList) : ((ba x).toList == s.toList) = false := by rw [ba_list, ByteArray.toList_eq]; exact beq_eq_false_iff_ne.2 h
end
section
open Go.RowKit Go.Sort
open Nw
theorem ret_bool {a b : Bool} (h : a = b) : Ending.returned (.bool a) = .returned (.bool b) := by rw [h]
theorem str_ne_true {x y : L8} (h : x ≠ y) : ((ba x).toList == (ba y).toList) = false := by rw [ba_list, ba_list]; exact beq_eq_false_iff_ne.2 h
theorem str_ne_false {x : L8} : ((ba x).toList == (ba x).toList) = true := by simp
theorem RSame_any (v u : Value) (l m : List L8) (w : World) (h : Rd w v l) (k : Rd w u m) :
  Calls Tryz.prog 11 #[v, u] w fun e w' => e = .returned (.bool (decide (l = m))) ∧ Below w.heap.size w w' := by
 obtain ⟨a, cap, rfl, h1, h2, h3⟩ := h
 obtain ⟨a2, cap2, rfl, k1, k2, k3⟩ := k
 unfold maxLen at h2 k2
 by_cases hlen : l.length = m.length
 ·obtain ⟨n, hn⟩ : ∃ n, n = l.length := ⟨_, rfl⟩
  have hm : n = m.length := by omega
  have HN : Hid (n = l.length ∧ n = m.length) := hid ⟨hn, hm⟩
  rw [← hn, ← hm]
  rw [← hn] at h1
  rw [← hm] at k1
  clear hn hm hlen
  go_enter Tryz.func11, Tryz.ntmps11
  go_wp2
  go_loopw [5] (fun i wr => ∃ k : Nat, k ≤ n ∧ i = .int .i64 k ∧ (∀ j (hj : j < l.length) (hj' : j < m.length), j < k → l[j] = m[j]) ∧ Below w.heap.size w wr) (fun i _ => n - (intOf i).toNat)
  case atStart => exact ⟨0, Nat.zero_le _, rfl, fun j _ _ h => absurd h (Nat.not_lt_zero _), Below.refl _ _⟩
  case round =>
   obtain ⟨k, hk, rfl, hall, hbel⟩ := hrel
   have HA := hid hall; clear hall
   have HB := hid hbel; clear hbel
   by_cases hlt : k < n
   ·have hl : Hid (k < l.length) := hid (by have := HN.out.1; omega)
    have hm : Hid (k < m.length) := hid (by have := HN.out.2; omega)
    rcases h3 with ⟨rfl, _⟩ | ⟨b, o, rfl, h4, h5⟩
    ·exact absurd hl.out (Nat.not_lt_zero _)
    rcases k3 with ⟨rfl, _⟩ | ⟨b2, o2, rfl, k4, k5⟩
    ·exact absurd hm.out (Nat.not_lt_zero _)
    have hc := (HB.out.cell (p := ⟨b, o + k, none⟩) h4).trans (h5 k hl.out)
    have kc := (HB.out.cell (p := ⟨b2, o2 + k, none⟩) k4).trans (k5 k hm.out)
    clear h5 k5
    have hltz : (k : Int) < (n : Int) := by omega
    by_cases he : l[k]'hl.out = m[k]'hm.out
    ·have HE := hid he
     have b1 := str_ne_false (x := l[k]'hl.out)
     rw [← he] at kc
     clear he
     generalize ba (l[k]'hl.out) = x at hc kc b1
     go_wp2
     go_quiet (fail)
     go_wp2
     go_roundw
     case rel =>
      refine ⟨k + 1, by omega, by go_num, fun j hj hj' hjk => ?_, ?_⟩
      ·rcases Nat.lt_succ_iff_lt_or_eq.1 hjk with h | rfl
       ·exact HA.out j hj hj' h
       ·exact HE.out
      ·exact HB.out.trans ((below_drewN _ _).mono HB.out.size)
     case measure => simp [intOf]; omega
    ·have HE := hid he
     have b1 := str_ne_true he
     clear he
     generalize ba (l[k]'hl.out) = x at hc b1
     generalize ba (m[k]'hm.out) = y at kc b1
     go_wp2
     go_quiet (fail)
     go_wp2
     go_ret
     exact ⟨ret_bool (decide_eq_false fun e => HE.out (by subst e; rfl)).symm, HB.out.trans ((below_drewN _ _).mono HB.out.size)⟩
   ·go_wp2
    go_ret
    refine ⟨ret_bool (decide_eq_true (List.ext_getElem (by rw [← HN.out.1, ← HN.out.2]) fun j hj hj' => HA.out j hj hj' ?_)).symm, HB.out⟩
    have := HN.out.1
    omega
 ·have H : Hid (l ≠ m) := hid fun e => hlen (by rw [e])
  have hz : ¬ (l.length : Int) = (m.length : Int) := by omega
  go_enter Tryz.func11, Tryz.ntmps11
  go_wp2
  go_ret
  exact ⟨ret_bool (decide_eq_false H.out).symm, Below.refl _ _⟩
end
section
open Go.RowKit Go.Sort
open Nw Go.ChangeShapes Go.WideShapes
def BestIs (l : List L8) (k i : Nat) (bz : Int) : Prop :=
 (bz = -1 ∧ ∀ j (hj : j < l.length), j < i → ¬ cand l k l[j]) ∨
 (∃ b, ∃ hb : b < l.length, bz = b ∧ b < i ∧ cand l k l[b] ∧ ∀ j (hj : j < l.length), j < i → cand l k l[j] → l[b] ≤ l[j])
theorem BestIs.start (l : List L8) (k : Nat) : BestIs l k 0 (-1) := .inl ⟨rfl, fun j _ h => absurd h (Nat.not_lt_zero _)⟩
theorem BestIs.skip {l : List L8} {k i : Nat} {bz : Int} (h : BestIs l k i bz) (hi : i < l.length) (hn : ¬ cand l k l[i]) : BestIs l k (i + 1) bz := by
 rcases h with ⟨e, h⟩ | ⟨b, hb, e, hbi, hc, hmin⟩
 ·refine .inl ⟨e, fun j hj hji => ?_⟩
  rcases Nat.lt_succ_iff_lt_or_eq.1 hji with h1 | rfl
  ·exact h j hj h1
  ·exact hn
 ·refine .inr ⟨b, hb, e, by omega, hc, fun j hj hji hcj => ?_⟩
  rcases Nat.lt_succ_iff_lt_or_eq.1 hji with h1 | rfl
  ·exact hmin j hj h1 hcj
  ·exact absurd hcj hn
theorem BestIs.keep {l : List L8} {k i b : Nat} (hb : b < l.length) (h : BestIs l k i (b : Int)) (hi : i < l.length) (hn : ¬ l[i] < l[b]) : BestIs l k (i + 1) (b : Int) := by
 rcases h with ⟨e, _⟩ | ⟨b', hb', e, hbi, hc, hmin⟩
 ·omega
 ·obtain rfl : b = b' := by omega
  refine .inr ⟨b, hb, e, by omega, hc, fun j hj hji hcj => ?_⟩
  rcases Nat.lt_succ_iff_lt_or_eq.1 hji with h1 | rfl
  ·exact hmin j hj h1 hcj
  ·exact le_of_nlt hn
theorem BestIs.first {l : List L8} {k i : Nat} (h : BestIs l k i (-1)) (hi : i < l.length) (hc : cand l k l[i]) : BestIs l k (i + 1) (i : Int) := by
 rcases h with ⟨_, h⟩ | ⟨b, hb, e, _⟩
 ·refine .inr ⟨i, hi, rfl, by omega, hc, fun j hj hji hcj => ?_⟩
  rcases Nat.lt_succ_iff_lt_or_eq.1 hji with h1 | rfl
  ·exact absurd hcj (h j hj h1)
  ·exact List.le_refl _
 ·omega
theorem BestIs.less {l : List L8} {k i b : Nat} (hb : b < l.length) (h : BestIs l k i (b : Int)) (hi : i < l.length) (hc : cand l k l[i]) (hl : l[i] < l[b]) : BestIs l k (i + 1) (i : Int) := by
 rcases h with ⟨e, _⟩ | ⟨b', hb', e, hbi, hc', hmin⟩
 ·omega
 ·obtain rfl : b = b' := by omega
  refine .inr ⟨i, hi, rfl, by omega, hc, fun j hj hji hcj => ?_⟩
  rcases Nat.lt_succ_iff_lt_or_eq.1 hji with h1 | rfl
  ·exact List.le_trans (le_of_lt hl) (hmin j hj h1 hcj)
  ·exact List.le_refl _
theorem BestIs.done_none {l : List L8} {k : Nat} (hk : k ≤ (sortL l).length) (h : BestIs l k l.length (-1)) : k = (sortL l).length := by
 rcases h with ⟨_, h⟩ | ⟨b, hb, e, _⟩
 ·refine none_left hk fun y hy hc => ?_
  obtain ⟨j, hj, rfl⟩ := List.mem_iff_getElem.1 hy
  exact h j hj hj hc
 ·omega
theorem BestIs.done_some {l : List L8} {k b : Nat} (hk : k ≤ (sortL l).length) (hb : b < l.length) (h : BestIs l k l.length (b : Int)) : ∃ h : k < (sortL l).length, (sortL l)[k] = l[b] := by
 rcases h with ⟨e, _⟩ | ⟨b', hb', e, _, hc, hmin⟩
 ·omega
 ·obtain rfl : b = b' := by omega
  refine next_is hk (List.getElem_mem _) hc fun z hz hcz => ?_
  obtain ⟨j, hj, rfl⟩ := List.mem_iff_getElem.1 hz
  exact hmin j hj hj hcz
theorem BestIs.place {l : List L8} {k i : Nat} {bz : Int} (h : BestIs l k i bz) : bz = -1 ∨ ∃ b : Nat, bz = b ∧ b < l.length := by
 rcases h with ⟨e, _⟩ | ⟨b, hb, e, _⟩
 ·exact .inl e
 ·exact .inr ⟨b, e, hb⟩
theorem cand_zero (l : List L8) (y : L8) : cand l 0 y := .inl rfl
theorem cand_pos {l : List L8} {k : Nat} (hk : 0 < k) (hk' : k - 1 < (sortL l).length) (y : L8) : cand l k y ↔ (sortL l)[k - 1] < y := by
 unfold cand
 rw [List.getD_eq_getElem?_getD, List.getElem?_eq_getElem hk']
 exact ⟨fun h => by
  rcases h with h | h; · omega
  ·exact h, fun h => .inr h⟩
theorem owns_read {w : World} {base n : Nat} {e : TypeId} {v : Value} {l : List L8} (h : w.ownsRow base e 1 v n (l.map encStr)) :
  ∃ a cap, v = .slice a n cap ∧ n ≤ cap ∧ cap ≤ maxLen ∧ l.length = n ∧ (n = 0 ∨ ∃ g, a = some ⟨g, 0, none⟩ ∧ ∀ j (hj : j < l.length), w.cell? ⟨g, j, none⟩ = some (.string (ba l[j]))) := by
 have hl : l.length = n := by simpa using h.1
 have hc : ∀ (g len cap : Nat), v = .slice (some ⟨g, 0, none⟩) len cap → ∀ j (hj : j < l.length), w.cell? ⟨g, j, none⟩ = some (.string (ba l[j])) := fun g len cap hv j hj => by
  subst hv
  have := h.cells (g := g) rfl j (encStr l[j]) (by rw [List.getElem?_map, List.getElem?_eq_getElem hj]; rfl)
  rw [add_plain, Nat.zero_add] at this
  exact this
 rcases h.2 with ⟨e0, h0⟩ | ⟨g, cap, cur, hv, _, _, h1, h2, _⟩
 ·subst h0
  exact ⟨none, 0, e0, Nat.le_refl _, Nat.zero_le _, hl, .inl rfl⟩
 ·exact ⟨_, cap, hv, h1, h2, hl, .inr ⟨g, rfl, hc g n cap hv⟩⟩
theorem less_true {x y : L8} (h : x < y) : Op.bytesLess (ba x).toList (ba y).toList = true := by rw [ba_list, ba_list, bytesLess_eq]; exact decide_eq_true h
theorem less_false {x y : L8} (h : ¬ x < y) : Op.bytesLess (ba x).toList (ba y).toList = false := by rw [ba_list, ba_list, bytesLess_eq]; exact decide_eq_false h
theorem eq_true' {x y : L8} (h : x = y) : ((ba x).toList == (ba y).toList) = true := by rw [h]; exact beq_self_eq_true _
theorem eq_false' {x y : L8} (h : x ≠ y) : ((ba x).toList == (ba y).toList) = false := by rw [ba_list, ba_list]; exact beq_eq_false_iff_ne.2 h
end
end Go.Proofs.YtkcilmmaggmmoaaGreatDoor
