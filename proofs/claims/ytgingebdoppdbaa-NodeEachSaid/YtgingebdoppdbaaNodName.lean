/- The contracts of the program's name.Same and name.At. -/
import Derived.Test.YtgingebdoppdbaaNamRsame
import Derived.Test.YtgingebdoppdbaaShelfA
namespace Go.Proofs.Ytgingebdoppdbaa
open Go.RowKit Go.Sort
open Nw
set_option linter.unusedVariables false
theorem take_eq (l m : List L8) (h : l.length = m.length) : decide ((l.map ba).take l.length = (m.map ba).take m.length) = decide (l = m) := by
  rw [List.take_of_length_le (by simp), List.take_of_length_le (by simp)]
  refine decide_eq_decide.2 ⟨fun h => ?_, fun h => by rw [h]⟩
  have := congrArg (List.map fun s : ByteArray => s.data.toList) h
  simpa [ba, Function.comp_def] using this

set_option maxHeartbeats 1600000 in
theorem Same_any (v u : Value) (l m : List L8) (w : World) (h : Rd w v l) (k : Rd w u m) :
    Calls Try.prog 53 #[v, u] w fun e w' => e = .returned (.bool (decide (l = m))) ∧ Below w.heap.size w w' := by
  have key : ∀ (x y : Value), Calls Try.prog 61 #[x, y] w (fun e w' => e = .returned (.bool (decide (l = m))) ∧ Below w.heap.size w w') →
      Calls Try.prog 53 #[x, y] w fun e w' => e = .returned (.bool (decide (l = m))) ∧ Below w.heap.size w w' := by
    intro x y hcon
    clear h k
    generalize decide (l = m) = r at hcon ⊢
    go_enter Try.func53, Try.ntmps53
    go_wp2_with (go_at_call 61; refine hcon.mono ?_; rintro e w' ⟨rfl, hb⟩)
    go_ret
    exact ⟨rfl, hb⟩
  apply key
  by_cases hlen : l.length = m.length
  · rcases h.cases with ⟨a, cap, rfl, rfl, _⟩ | ⟨b, o, cap, rfl, h1, h2, h3, h4⟩
    · obtain ⟨a2, cap2, rfl, k1, k2, _⟩ := k
      refine (Try.slices_Equal_string_empty a a2 cap m.length cap2 w (by unfold maxLen at k2; omega)).mono ?_
      rintro e w' ⟨rfl, rfl⟩
      refine ⟨ret_bool (decide_eq_decide.2 ⟨fun h => (List.length_eq_zero_iff.1 h).symm, fun h => by rw [← h]; rfl⟩), Below.refl _ _⟩
    · rcases k.cases with ⟨a2, cap2, rfl, rfl, _⟩ | ⟨b2, o2, cap2, rfl, k1, k2, k3, k4⟩
      · have h0 : l = [] := List.length_eq_zero_iff.1 hlen
        subst h0
        refine (Try.slices_Equal_string_empty _ a2 cap 0 cap2 w (by omega)).mono ?_
        rintro e w' ⟨rfl, rfl⟩
        exact ⟨ret_bool (by simp), Below.refl _ _⟩
      · refine (Try.slices_Equal_string b o l.length cap b2 o2 m.length cap2 (l.map ba) (m.map ba) w (by simp) (by simp) (by unfold maxLen at h2; omega) (by unfold maxLen at k2; omega)
          (fun j hj => by rw [map_ba l j hj]; exact h4 j (by simpa using hj)) (fun j hj => by rw [map_ba m j hj]; exact k4 j (by simpa using hj))).mono ?_
        rintro e w' ⟨rfl, q, rfl⟩
        exact ⟨ret_bool (take_eq l m hlen), below_drewN w q⟩
  · obtain ⟨a, cap, rfl, _⟩ := h
    obtain ⟨a2, cap2, rfl, _⟩ := k
    refine (Try.slices_Equal_string_lens a a2 l.length cap m.length cap2 w hlen).mono ?_
    rintro e w' ⟨rfl, rfl⟩
    exact ⟨ret_bool (decide_eq_false fun e => hlen (by rw [e])).symm, Below.refl _ _⟩

/-- The first place. -/
def atL (l : List L8) (s : L8) : Int := Lib.idxOfS (l.map ba) (ba s)

theorem atL_hit {l : List L8} {s : L8} {k : Nat} (hk : k < l.length) (h : l[k] = s) (hne : ∀ j (hj : j < l.length), j < k → l[j] ≠ s) : atL l s = k := by
  have := Lib.idxOfS_hit (l.map ba) l.length k (ba s) hk (by simp) (by rw [map_ba l k (by simpa using hk), h]) (fun j hj => by rw [map_ba l j (by simp; omega)]; exact fun e => hne j (by omega) hj (ba_inj e))
  rwa [List.take_of_length_le (by simp)] at this
theorem atL_miss {l : List L8} {s : L8} (hne : ∀ j (hj : j < l.length), l[j] ≠ s) : atL l s = -1 := by
  have := Lib.idxOfS_miss (l.map ba) l.length (ba s) (fun j hj => by rw [map_ba l j (by simp; omega)]; exact fun e => hne j hj (ba_inj e))
  rwa [List.take_of_length_le (by simp)] at this

set_option maxHeartbeats 800000 in
theorem At_any (v : Value) (l : List L8) (s : ByteArray) (w : World) (h : Rd w v l) :
    Calls Try.prog 50 #[v, .string s] w fun e w' => e = .returned (.int .i64 (atL l s.data.toList)) ∧ w = w' := by
  have key : ∀ (x : Value), Calls Try.prog 58 #[x, .string s] w (fun e w' => e = .returned (.int .i64 (atL l s.data.toList)) ∧ w' = w) →
      Calls Try.prog 50 #[x, .string s] w fun e w' => e = .returned (.int .i64 (atL l s.data.toList)) ∧ w = w' := by
    intro x hcon
    clear h
    generalize atL l s.data.toList = r at hcon ⊢
    go_enter Try.func50, Try.ntmps50
    go_wp2_with (go_at_call 58; refine hcon.mono ?_; rintro e w' ⟨rfl, rfl⟩)
    go_ret
    exact ⟨rfl, rfl⟩
  apply key
  unfold atL
  rw [ba_of]
  rcases h.cases with ⟨a, cap, rfl, rfl, _⟩ | ⟨b, o, cap, rfl, h1, h2, h3, h4⟩
  · exact Try.slices_Index_string_empty a cap s w
  · have := Try.slices_Index_string b o l.length cap (l.map ba) s w (by simp) (by unfold maxLen at h2; omega) (fun j hj => by rw [map_ba l j hj]; exact h4 j (by simpa using hj))
    rwa [List.take_of_length_le (by simp)] at this
end Go.Proofs.Ytgingebdoppdbaa
