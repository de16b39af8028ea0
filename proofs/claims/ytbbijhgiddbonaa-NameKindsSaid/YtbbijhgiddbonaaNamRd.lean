/- A slice of strings that reads as a list of lists of bytes, in whatever later world; the contracts of In, Same, At and of the reference's. -/
import Derived.Test.YtbbijhgiddbonaaRows
import Derived.Test.YtbbijhgiddbonaaNamListMath
import Derived.Test.YtbbijhgiddbonaaNamKinds
import Derived.Test.YtbbijhgiddbonaaShelf
import Derived.Below
import Derived.Lib.OwnBridge
import Derived.Sort.OwnSorted
import Derived.WalkKit
import Derived.ProofKit
import Derived.Lib.Hide
import Derived.Deep.QuietTactic
import Derived.Deep.LoopGhost
import Derived.BigQuiet
namespace Go.Proofs.Ytbbijhgiddbonaa
open Go.RowKit Go.Sort Go.Lib
open Nw
set_option linter.unusedVariables false

/-- A string of these bytes. -/
def ba (x : L8) : ByteArray := ⟨x.toArray⟩
theorem ba_data (x : L8) : (ba x).data.toList = x := by simp [ba]
theorem ba_list (x : L8) : (ba x).toList = x := by rw [ByteArray.toList_eq, ba_data]
theorem ba_of (s : ByteArray) : ba s.data.toList = s := by cases s; simp [ba]
theorem ba_inj {x y : L8} (h : ba x = ba y) : x = y := by rw [← ba_data x, ← ba_data y, h]
theorem encStr_ba (x : L8) : encStr x = .string (ba x) := rfl

/-- The slice v holds the strings of l. -/
def Rd (w : World) (v : Value) (l : List L8) : Prop :=
  ∃ (a : Option Addr) (cap : Nat), v = .slice a l.length cap ∧ l.length ≤ cap ∧ cap ≤ maxLen ∧
    ((l = [] ∧ (a = none → cap = 0)) ∨ ∃ b o, a = some ⟨b, o, none⟩ ∧ b < w.heap.size ∧ ∀ j (h : j < l.length), w.cell? ⟨b, o + j, none⟩ = some (.string (ba l[j])))

theorem Rd.below {w w' : World} {v : Value} {l : List L8} (h : Rd w v l) (hb : Below w.heap.size w w') : Rd w' v l := by
  obtain ⟨a, cap, rfl, h1, h2, h3⟩ := h
  refine ⟨a, cap, rfl, h1, h2, ?_⟩
  rcases h3 with h3 | ⟨b, o, rfl, h4, h5⟩
  · exact .inl h3
  · exact .inr ⟨b, o, rfl, Nat.lt_of_lt_of_le h4 hb.size, fun j hj => (hb.cell (p := ⟨b, o + j, none⟩) h4).trans (h5 j hj)⟩

theorem Rd.cases {w : World} {v : Value} {l : List L8} (h : Rd w v l) :
    (∃ a cap, v = .slice a 0 cap ∧ l = [] ∧ cap ≤ maxLen ∧ (a = none → cap = 0)) ∨ (∃ b o cap, v = .slice (some ⟨b, o, none⟩) l.length cap ∧ l.length ≤ cap ∧ cap ≤ maxLen ∧ b < w.heap.size ∧ ∀ j (h : j < l.length), w.cell? ⟨b, o + j, none⟩ = some (.string (ba l[j]))) := by
  obtain ⟨a, cap, rfl, h1, h2, h3⟩ := h
  rcases h3 with ⟨rfl, hn⟩ | ⟨b, o, rfl, h4, h5⟩
  · exact .inl ⟨a, cap, rfl, rfl, h2, hn⟩
  · exact .inr ⟨b, o, cap, rfl, h1, h2, h4, h5⟩

theorem rd_empty (w : World) (a : Option Addr) (cap : Nat) (h : cap ≤ maxLen) (hn : a = none → cap = 0) : Rd w (.slice a 0 cap) [] := ⟨a, cap, rfl, Nat.zero_le _, h, .inl ⟨rfl, hn⟩⟩

theorem rd_of_owns {w : World} {base n : Nat} {e : TypeId} {v : Value} {l : List L8} (h : w.ownsRow base e 1 v n (l.map encStr)) : Rd w v l := by
  have hl : l.length = n := by simpa using h.1
  by_cases hv : v = .slice none 0 0
  · subst hv
    rcases h.2 with ⟨_, h0⟩ | ⟨g, cap, cur, h0, _⟩
    · obtain rfl : l = [] := List.length_eq_zero_iff.1 (by omega)
      exact rd_empty w none 0 (Nat.zero_le _) fun _ => rfl
    · cases h0
  · obtain ⟨g, cap, rfl, _, hg, h1, h2, _, hH⟩ := holds_of_ownsRow h hv
    subst hl
    refine ⟨_, cap, rfl, h1, h2, .inr ⟨g, 0, rfl, hg, fun j hj => ?_⟩⟩
    have := (hH j (by simpa using hj)).1
    rw [getElem!_pos l.toArray j (by simpa using hj)] at this
    have h2 : w.cell? ⟨g, 0 + j, none⟩ = some (encStr l[j]) := by simpa using this
    exact h2

theorem map_ba (l : List L8) (j : Nat) (h : j < (l.map ba).length) : (l.map ba).getD j ByteArray.empty = ba (l[j]'(by simpa using h)) := by
  rw [List.getD_eq_getElem?_getD, List.getElem?_eq_getElem h]; simp

/-! ### The program's In, Same, At -/

theorem containsS_mem (l : List L8) (s : ByteArray) : Lib.containsS ((l.map ba).take l.length) s = decide (s.data.toList ∈ l) := by
  rw [List.take_of_length_le (by simp)]
  rw [Bool.eq_iff_iff, Lib.containsS_iff, decide_eq_true_eq]
  constructor
  · intro h
    obtain ⟨x, hx, rfl⟩ := List.mem_map.1 h
    rwa [ba_data]
  · intro h; exact List.mem_map.2 ⟨_, h, ba_of s⟩

set_option maxHeartbeats 800000 in
theorem In_any (v : Value) (l : List L8) (s : ByteArray) (w : World) (h : Rd w v l) :
    Calls Try.prog 21 #[v, .string s] w fun e w' => e = .returned (.bool (decide (s.data.toList ∈ l))) ∧ w = w' := by
  rcases h.cases with ⟨a, cap, rfl, rfl, _⟩ | ⟨b, o, cap, rfl, h1, h2, h3, h4⟩
  · have hcon := Try.slices_Contains_string_empty a cap s w
    go_enter Try.func21, Try.ntmps21
    go_wp2_with (go_at_call 42; refine hcon.mono ?_; rintro e w' ⟨rfl, rfl⟩)
    go_ret
    exact ⟨ret_bool (by simp), rfl⟩
  · have hcon := Try.slices_Contains_string b o l.length cap (l.map ba) s w (by simp) (by unfold maxLen at h2; omega) (fun j hj => by rw [map_ba l j hj]; exact h4 j (by simpa using hj))
    rw [containsS_mem] at hcon
    clear h h4
    generalize decide (s.data.toList ∈ l) = r at hcon ⊢
    go_enter Try.func21, Try.ntmps21
    go_wp2_with (go_at_call 42; refine hcon.mono ?_; rintro e w' ⟨rfl, rfl⟩)
    go_ret
    exact ⟨rfl, rfl⟩


theorem below_drewN (w : World) (q : Nat) : Below w.heap.size w (w.drewN q) := ⟨rfl, rfl, rfl, Nat.le_refl _, fun _ _ => rfl⟩

theorem take_eq (l m : List L8) (h : l.length = m.length) : decide ((l.map ba).take l.length = (m.map ba).take m.length) = decide (l = m) := by
  rw [List.take_of_length_le (by simp), List.take_of_length_le (by simp)]
  refine decide_eq_decide.2 ⟨fun h => ?_, fun h => by rw [h]⟩
  have := congrArg (List.map fun s : ByteArray => s.data.toList) h
  simpa [ba, Function.comp_def] using this

set_option maxHeartbeats 1600000 in
theorem Same_any (v u : Value) (l m : List L8) (w : World) (h : Rd w v l) (k : Rd w u m) :
    Calls Try.prog 23 #[v, u] w fun e w' => e = .returned (.bool (decide (l = m))) ∧ Below w.heap.size w w' := by
  have key : ∀ (x y : Value), Calls Try.prog 43 #[x, y] w (fun e w' => e = .returned (.bool (decide (l = m))) ∧ Below w.heap.size w w') →
      Calls Try.prog 23 #[x, y] w fun e w' => e = .returned (.bool (decide (l = m))) ∧ Below w.heap.size w w' := by
    intro x y hcon
    clear h k
    generalize decide (l = m) = r at hcon ⊢
    go_enter Try.func23, Try.ntmps23
    go_wp2_with (go_at_call 43; refine hcon.mono ?_; rintro e w' ⟨rfl, hb⟩)
    go_ret
    exact ⟨rfl, hb⟩
  apply key
  by_cases hlen : l.length = m.length
  · rcases h.cases with ⟨a, cap, rfl, rfl, _⟩ | ⟨b, o, cap, rfl, h1, h2, h3, h4⟩
    · obtain ⟨a2, cap2, rfl, k1, k2, _⟩ := k
      refine (Try.slices_Equal_string_empty a a2 cap m.length cap2 w (by unfold maxLen at k2; omega)).mono ?_
      rintro e w' ⟨rfl, rfl⟩
      refine ⟨ret_bool (decide_eq_decide.2 ⟨fun h => (List.length_eq_zero_iff.1 h).symm, fun h => by rw [← h]; rfl⟩), Below.refl _ _⟩
    · rcases k.cases with ⟨a2, cap2, rfl, rfl, _⟩ | ⟨b2, o2, cap2, rfl, k1, k2, k3, k4⟩
      · have h0 : l = [] := List.length_eq_zero_iff.1 hlen
        subst h0
        refine (Try.slices_Equal_string_empty _ a2 cap 0 cap2 w (by omega)).mono ?_
        rintro e w' ⟨rfl, rfl⟩
        exact ⟨ret_bool (by simp), Below.refl _ _⟩
      · refine (Try.slices_Equal_string b o l.length cap b2 o2 m.length cap2 (l.map ba) (m.map ba) w (by simp) (by simp) (by unfold maxLen at h2; omega) (by unfold maxLen at k2; omega)
          (fun j hj => by rw [map_ba l j hj]; exact h4 j (by simpa using hj)) (fun j hj => by rw [map_ba m j hj]; exact k4 j (by simpa using hj))).mono ?_
        rintro e w' ⟨rfl, q, rfl⟩
        exact ⟨ret_bool (take_eq l m hlen), below_drewN w q⟩
  · obtain ⟨a, cap, rfl, _⟩ := h
    obtain ⟨a2, cap2, rfl, _⟩ := k
    refine (Try.slices_Equal_string_lens a a2 l.length cap m.length cap2 w hlen).mono ?_
    rintro e w' ⟨rfl, rfl⟩
    exact ⟨ret_bool (decide_eq_false fun e => hlen (by rw [e])).symm, Below.refl _ _⟩

/-- The first place. -/
def atL (l : List L8) (s : L8) : Int := Lib.idxOfS (l.map ba) (ba s)

theorem atL_hit {l : List L8} {s : L8} {k : Nat} (hk : k < l.length) (h : l[k] = s) (hne : ∀ j (hj : j < l.length), j < k → l[j] ≠ s) : atL l s = k := by
  have := Lib.idxOfS_hit (l.map ba) l.length k (ba s) hk (by simp) (by rw [map_ba l k (by simpa using hk), h]) (fun j hj => by rw [map_ba l j (by simp; omega)]; exact fun e => hne j (by omega) hj (ba_inj e))
  rwa [List.take_of_length_le (by simp)] at this
theorem atL_miss {l : List L8} {s : L8} (hne : ∀ j (hj : j < l.length), l[j] ≠ s) : atL l s = -1 := by
  have := Lib.idxOfS_miss (l.map ba) l.length (ba s) (fun j hj => by rw [map_ba l j (by simp; omega)]; exact fun e => hne j hj (ba_inj e))
  rwa [List.take_of_length_le (by simp)] at this

set_option maxHeartbeats 800000 in
theorem At_any (v : Value) (l : List L8) (s : ByteArray) (w : World) (h : Rd w v l) :
    Calls Try.prog 24 #[v, .string s] w fun e w' => e = .returned (.int .i64 (atL l s.data.toList)) ∧ w = w' := by
  have key : ∀ (x : Value), Calls Try.prog 44 #[x, .string s] w (fun e w' => e = .returned (.int .i64 (atL l s.data.toList)) ∧ w' = w) →
      Calls Try.prog 24 #[x, .string s] w fun e w' => e = .returned (.int .i64 (atL l s.data.toList)) ∧ w = w' := by
    intro x hcon
    clear h
    generalize atL l s.data.toList = r at hcon ⊢
    go_enter Try.func24, Try.ntmps24
    go_wp2_with (go_at_call 44; refine hcon.mono ?_; rintro e w' ⟨rfl, rfl⟩)
    go_ret
    exact ⟨rfl, rfl⟩
  apply key
  unfold atL
  rw [ba_of]
  rcases h.cases with ⟨a, cap, rfl, rfl, _⟩ | ⟨b, o, cap, rfl, h1, h2, h3, h4⟩
  · exact Try.slices_Index_string_empty a cap s w
  · have := Try.slices_Index_string b o l.length cap (l.map ba) s w (by simp) (by unfold maxLen at h2; omega) (fun j hj => by rw [map_ba l j hj]; exact h4 j (by simpa using hj))
    rwa [List.take_of_length_le (by simp)] at this

/-! ### The reference's -/

theorem str_eq_true {x : L8} {s : ByteArray} (h : x = s.data.toList) : ((ba x).toList == s.toList) = true := by rw [ba_list, ByteArray.toList_eq, h]; exact beq_self_eq_true _
theorem str_eq_false {x : L8} {s : ByteArray} (h : x ≠ s.data.toList) : ((ba x).toList == s.toList) = false := by rw [ba_list, ByteArray.toList_eq]; exact beq_eq_false_iff_ne.2 h

set_option maxHeartbeats 1600000 in
theorem RIn_any (v : Value) (l : List L8) (s : ByteArray) (w : World) (h : Rd w v l) :
    Calls Try.prog 22 #[v, .string s] w fun e w' => e = .returned (.bool (decide (s.data.toList ∈ l))) ∧ w = w' := by
  obtain ⟨a, cap, rfl, h1, h2, h3⟩ := h
  unfold maxLen at h2
  go_enter Try.func22, Try.ntmps22
  go_wp2
  go_loop [5] (fun i => ∃ k : Nat, k ≤ l.length ∧ i = .int .i64 k ∧ ∀ j (hj : j < l.length), j < k → l[j] ≠ s.data.toList) (fun i => l.length - (intOf i).toNat)
  case atStart => exact ⟨0, Nat.zero_le _, rfl, fun j _ h => absurd h (Nat.not_lt_zero _)⟩
  case round =>
    obtain ⟨k, hk, rfl, hall⟩ := hrel
    have HA := Lib.hid hall; clear hall
    by_cases hlt : k < l.length
    · rcases h3 with ⟨rfl, _⟩ | ⟨b, o, rfl, h4, h5⟩
      · exact absurd hlt (Nat.not_lt_zero _)
      have hc := h5 k hlt
      clear h5
      by_cases he : l[k] = s.data.toList
      · have HE := Lib.hid he
        have b1 := str_eq_true he
        clear he
        generalize ba l[k] = x at hc b1
        go_wp2
        go_ret
        exact ⟨ret_bool (decide_eq_true (by rw [← HE.out]; exact List.getElem_mem _)).symm, rfl⟩
      · have HE := Lib.hid he
        have b1 := str_eq_false he
        clear he
        generalize ba l[k] = x at hc b1
        go_wp2
        go_round
        case rel =>
          refine ⟨k + 1, by omega, by go_num, fun j hj hjk => ?_⟩
          rcases Nat.lt_succ_iff_lt_or_eq.1 hjk with h | rfl
          · exact HA.out j hj h
          · exact HE.out
        case measure => simp [intOf]; omega
    · go_wp2
      go_ret
      refine ⟨ret_bool (decide_eq_false fun hm => ?_).symm, rfl⟩
      obtain ⟨j, hj, e⟩ := List.mem_iff_getElem.1 hm
      exact HA.out j hj (by omega) e

set_option maxHeartbeats 1600000 in
theorem RAt_any (v : Value) (l : List L8) (s : ByteArray) (w : World) (h : Rd w v l) :
    Calls Try.prog 25 #[v, .string s] w fun e w' => e = .returned (.int .i64 (atL l s.data.toList)) ∧ w = w' := by
  obtain ⟨a, cap, rfl, h1, h2, h3⟩ := h
  unfold maxLen at h2
  go_enter Try.func25, Try.ntmps25
  go_wp2
  go_loop [5] (fun i => ∃ k : Nat, k ≤ l.length ∧ i = .int .i64 k ∧ ∀ j (hj : j < l.length), j < k → l[j] ≠ s.data.toList) (fun i => l.length - (intOf i).toNat)
  case atStart => exact ⟨0, Nat.zero_le _, rfl, fun j _ h => absurd h (Nat.not_lt_zero _)⟩
  case round =>
    obtain ⟨k, hk, rfl, hall⟩ := hrel
    have HA := Lib.hid hall; clear hall
    by_cases hlt : k < l.length
    · rcases h3 with ⟨rfl, _⟩ | ⟨b, o, rfl, h4, h5⟩
      · exact absurd hlt (Nat.not_lt_zero _)
      have hc := h5 k hlt
      clear h5
      by_cases he : l[k] = s.data.toList
      · have HE := Lib.hid he
        have b1 := str_eq_true he
        clear he
        generalize ba l[k] = x at hc b1
        go_wp2
        go_ret
        exact ⟨ret_int (atL_hit hlt HE.out HA.out).symm, rfl⟩
      · have HE := Lib.hid he
        have b1 := str_eq_false he
        clear he
        generalize ba l[k] = x at hc b1
        go_wp2
        go_round
        case rel =>
          refine ⟨k + 1, by omega, by go_num, fun j hj hjk => ?_⟩
          rcases Nat.lt_succ_iff_lt_or_eq.1 hjk with h | rfl
          · exact HA.out j hj h
          · exact HE.out
        case measure => simp [intOf]; omega
    · go_wp2
      go_ret
      exact ⟨ret_int (atL_miss fun j hj => HA.out j hj (by omega)).symm, rfl⟩

end Go.Proofs.Ytbbijhgiddbonaa
