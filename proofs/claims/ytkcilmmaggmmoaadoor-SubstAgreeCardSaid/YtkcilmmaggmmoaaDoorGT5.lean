/- NamRd, NamIn -/
import Derived.Below
import Derived.BigQuiet
import Derived.ChangeAlike
import Derived.Deep.LoopGhost
import Derived.Deep.QuietTactic
import Derived.Lib.Hide
import Derived.Lib.OwnBridge
import Derived.ProofKit
import Derived.RegionTactic
import Derived.Shelf.Small.Strs
import Derived.Sort.OwnSorted
import Derived.Test.YtkcilmmaggmmoaaDoorGT2
import Derived.Test.YtkcilmmaggmmoaaDoorGT4
import Derived.Test.YtkcilmmaggmmoaaDoorRows
import Derived.WalkKit
set_option linter.unusedVariables false
set_option linter.unusedSimpArgs false
set_option maxRecDepth 100000
set_option maxHeartbeats 16000000
open Go.Lib (hid)
namespace Go.Proofs.YtkcilmmaggmmoaaDoor
namespace Nw
end Nw
end Go.Proofs.YtkcilmmaggmmoaaDoor
namespace Go.Proofs.YtkcilmmaggmmoaaDoor
section
open Go.RowKit Go.Sort Go.Lib
open Nw
def ba (x : L8) : ByteArray := ⟨x.toArray⟩
theorem ba_data (x : L8) : (ba x).data.toList = x := by simp [ba]
theorem ba_list (x : L8) : (ba x).toList = x := by rw [ByteArray.toList_eq, ba_data]
theorem ba_of (s : ByteArray) : ba s.data.toList = s := by cases s; simp [ba]
theorem encStr_ba (x : L8) : encStr x = .string (ba x) := rfl
def Rd (w : World) (v : Value) (l : List L8) : Prop :=
 ∃ (a : Option Addr) (cap : Nat), v = .slice a l.length cap ∧ l.length ≤ cap ∧ cap ≤ maxLen ∧
  ((l = [] ∧ (a = none → cap = 0)) ∨ ∃ b o, a = some ⟨b, o, none⟩ ∧ b < w.heap.size ∧ ∀ j (h : j < l.length), w.cell? ⟨b, o + j, none⟩ = some (.string (ba l[j])))
theorem Rd.below {w w' : World} {v : Value} {l : List L8} (h : Rd w v l) (hb : Below w.heap.size w w') : Rd w' v l := by
 obtain ⟨a, cap, rfl, h1, h2, h3⟩ := h
 refine ⟨a, cap, rfl, h1, h2, ?_⟩
 rcases h3 with h3 | ⟨b, o, rfl, h4, h5⟩
 ·exact .inl h3
 ·exact .inr ⟨b, o, rfl, Nat.lt_of_lt_of_le h4 hb.size, fun j hj => (hb.cell (p := ⟨b, o + j, none⟩) h4).trans (h5 j hj)⟩
theorem rd_empty (w : World) (a : Option Addr) (cap : Nat) (h : cap ≤ maxLen) (hn : a = none → cap = 0) : Rd w (.slice a 0 cap) [] := ⟨a, cap, rfl, Nat.zero_le _, h, .inl ⟨rfl, hn⟩⟩
theorem rd_of_owns {w : World} {base n : Nat} {e : TypeId} {v : Value} {l : List L8} (h : w.ownsRow base e 1 v n (l.map encStr)) : Rd w v l := by
 have hl : l.length = n := by simpa using h.1
 by_cases hv : v = .slice none 0 0
 ·subst hv
  rcases h.2 with ⟨_, h0⟩ | ⟨g, cap, cur, h0, _⟩
  ·obtain rfl : l = [] := List.length_eq_zero_iff.1 (by omega)
   exact rd_empty w none 0 (Nat.zero_le _) fun _ => rfl
  ·cases h0
 ·obtain ⟨g, cap, rfl, _, hg, h1, h2, _, hH⟩ := holds_of_ownsRow h hv
  subst hl
  refine ⟨_, cap, rfl, h1, h2, .inr ⟨g, 0, rfl, hg, fun j hj => ?_⟩⟩
  have := (hH j (by simpa using hj)).1
  rw [getElem!_pos l.toArray j (by simpa using hj)] at this
  have h2 : w.cell? ⟨g, 0 + j, none⟩ = some (encStr l[j]) := by simpa using this
  exact h2
theorem below_drewN (w : World) (q : Nat) : Below w.heap.size w (w.drewN q) := ⟨rfl, rfl, rfl, Nat.le_refl _, fun _ _ => rfl⟩
theorem str_eq_true {x : L8} {s : ByteArray} (h : x = s.data.toList) : ((ba x).toList == s.toList) = true := by rw [ba_list, ByteArray.toList_eq, h]; exact beq_self_eq_true _
theorem str_eq_false {x : L8} {s : ByteArray} (h : x ≠ s.data.toList) : ((ba x).toList == s.toList) = false := by rw [ba_list, ByteArray.toList_eq]; exact beq_eq_false_iff_ne.2 h
end
section
open Go.RowKit Go.Sort
open Nw
theorem RIn_any (v : Value) (l : List L8) (s : ByteArray) (w : World) (h : Rd w v l) :
  Calls Tryd.prog 14 #[v, .string s] w fun e w' => e = .returned (.bool (decide (s.data.toList ∈ l))) ∧ w = w' := by
 obtain ⟨a, cap, rfl, h1, h2, h3⟩ := h
 unfold maxLen at h2
 go_enter Tryd.func14, Tryd.ntmps14
 go_wp2
 go_loop [5] (fun i => ∃ k : Nat, k ≤ l.length ∧ i = .int .i64 k ∧ ∀ j (hj : j < l.length), j < k → l[j] ≠ s.data.toList) (fun i => l.length - (intOf i).toNat)
 case atStart => exact ⟨0, Nat.zero_le _, rfl, fun j _ h => absurd h (Nat.not_lt_zero _)⟩
 case round =>
  obtain ⟨k, hk, rfl, hall⟩ := hrel
  have HA := hid hall; clear hall
  by_cases hlt : k < l.length
  ·rcases h3 with ⟨rfl, _⟩ | ⟨b, o, rfl, h4, h5⟩
   ·exact absurd hlt (Nat.not_lt_zero _)
   have hc := h5 k hlt
   clear h5
   by_cases he : l[k] = s.data.toList
   ·have HE := hid he
    have b1 := str_eq_true he
    clear he
    generalize ba l[k] = x at hc b1
    go_wp2
    go_ret
    exact ⟨ret_bool (decide_eq_true (by rw [← HE.out]; exact List.getElem_mem _)).symm, rfl⟩
   ·have HE := hid he
    have b1 := str_eq_false he
    clear he
    generalize ba l[k] = x at hc b1
    go_wp2
    go_round
    case rel =>
     refine ⟨k + 1, by omega, by go_num, fun j hj hjk => ?_⟩
     rcases Nat.lt_succ_iff_lt_or_eq.1 hjk with h | rfl
     ·exact HA.out j hj h
     ·exact HE.out
    case measure => simp [intOf]; omega
  ·go_wp2
   go_ret
   refine ⟨ret_bool (decide_eq_false fun hm => ?_).symm, rfl⟩
   obtain ⟨j, hj, e⟩ := List.mem_iff_getElem.1 hm
   exact HA.out j hj (by omega) e
end
end Go.Proofs.YtkcilmmaggmmoaaDoor
