/- The contracts of Without's closure and of Without. -/
import Derived.Test.YtbbijhgiddbonaaNamRwithout
namespace Go.Proofs.Ytbbijhgiddbonaa
open Go.RowKit Go.Sort
open Nw Go.ChangeShapes Go.WideShapes
set_option linter.unusedVariables false

theorem Search_any (v : Value) (S : List L8) (hS : Asc S) (hSl : S.length ≤ 4398046511103) (x : ByteArray) (w : World) (h : Rd w v S) :
    Calls Try.prog 41 #[v, .string x] w fun e w' => ∃ i : Int, e = .returned (.tuple #[.int .i64 i, .bool (decide (x.data.toList ∈ S))]) ∧ ∃ q, w' = w.drewN q := by
  rcases h.cases with ⟨a, cap, rfl, rfl, _⟩ | ⟨b, o, cap, rfl, h1, h2, h3, h4⟩
  · refine (Try.slices_BinarySearch_string_empty a cap x w).mono ?_
    rintro e w' ⟨rfl, rfl⟩
    exact ⟨0, by simp, 0, rfl⟩
  · have hc := Try.slices_BinarySearch_string b o S.length cap (fun t => if h : t < S.length then ba S[t] else x) x w (by omega) (fun j hj => by rw [h4 j hj]; simp [hj])
    rw [found hS x _ (fun t ht => by simp [ht]; rfl) (fun t ht => by simp [Nat.not_lt.2 ht])] at hc
    refine hc.mono ?_
    rintro e w' ⟨rfl, q, rfl⟩
    exact ⟨_, rfl, q, rfl⟩

set_option maxHeartbeats 1600000 in
theorem unwanted_any (x : ByteArray) (B : Nat) (v : Value) (S : List L8) (hS : Asc S) (hSl : S.length ≤ 4398046511103) (w : World) (hc : w.cell? ⟨B, 0, none⟩ = some v) (h : Rd w v S) :
    Calls Try.prog 40 #[.string x, .pointer (some ⟨B, 0, none⟩)] w fun e w' => e = .returned (.bool (decide (x.data.toList ∈ S))) ∧ ∃ q, w' = w.drewN q := by
  have hs := Search_any v S hS hSl x w h
  generalize decide (x.data.toList ∈ S) = r at hs ⊢
  obtain ⟨a, cap, rfl, h1, h2, h3⟩ := h
  clear h3
  go_enter Try.func40, Try.ntmps40
  go_wp2_with (go_at_call 41; refine hs.mono ?_; rintro e w' ⟨i, rfl, q, rfl⟩)
  go_ret
  exact ⟨rfl, _, rfl⟩

theorem below_sorted {base : Nat} {w w1 : World} {g n : Nat} {d : Array L8} {os : Array Obj} (h : Below base w w1) (hb : base ≤ w1.heap.size) (hg : base ≤ g) : Below base w (grow (putRow encStr (Sort.ahead w1 n) g 0 d) os) :=
  h.grown (grownBy_sorted d) hb fun j hj => by cases hj; exact hg

set_option maxHeartbeats 1600000 in
/-- DeleteFunc with Without's closure, at a slice of the call's own. -/
theorem Delete_any (v v1 : Value) (l S : List L8) (hS : Asc S) (hSl : S.length ≤ 4398046511103) (B base : Nat) (w : World) (h : w.ownsRow base 9 1 v l.length (l.map encStr)) (w0 : World) (hb0 : base = w0.heap.size) (hw : Below base w0 w) (hB : B < base) (hc : w0.cell? ⟨B, 0, none⟩ = some v1) (hr : Rd w0 v1 S) (hbig : l.length ≤ 4398046511103) :
    Calls Try.prog 39 #[v, .func (.func 40) #[] #[.pointer (some ⟨B, 0, none⟩)]] w fun e w' => ∃ v', e = .returned v' ∧ w'.ownsRow base 9 1 v' (l.filter (notIn S)).length ((l.filter (notIn S)).map encStr) ∧ Below base w w' := by
  have hbw : base ≤ w.heap.size := by rw [hb0]; rw [hb0] at hw; exact hw.size
  by_cases hv : v = .slice none 0 0
  · subst hv
    obtain ⟨h0, rfl⟩ := owns_nil h
    have hI := Try.slices_IndexFunc_empty (α := L8) none 0 (.func (.func 40) #[] #[.pointer (some ⟨B, 0, none⟩)]) w
    clear h hc hr
    go_enter Try.func39, Try.ntmps39
    go_wp2_with (go_at_call 48; refine hI.mono ?_; rintro e w' ⟨rfl, rfl⟩)
    go_ret
    exact ⟨_, rfl, ⟨rfl, .inl ⟨rfl, rfl⟩⟩, Below.refl _ _⟩
  · obtain ⟨g, cap, rfl, hbg, hg, h1, h2, hl, hH⟩ := Lib.holds_of_ownsRow h hv
    have gives : ∀ (W : World), Below base w0 W → ∀ x : L8, FnGives Try.prog 40 #[.pointer (some ⟨B, 0, none⟩)] #[encStr x] (.bool (decide (x ∈ S))) W := by
      intro W hW x
      have := unwanted_any (ba x) B v1 S hS hSl W ((hW.cell (p := ⟨B, 0, none⟩) hB).trans hc) (hr.below (by rw [← hb0]; exact hW))
      rw [ba_data] at this
      exact this
    have hp : PredAt Try.prog 40 #[.pointer (some ⟨B, 0, none⟩)] encStr (fun x => decide (x ∈ S)) w := fun W x hW => gives W (hw.trans (hW.mono hbw)) x
    have hpo : PredOver Try.prog 40 #[.pointer (some ⟨B, 0, none⟩)] encStr (fun x => decide (x ∈ S)) g 0 l.toArray.size w := fun n os dk x hs => gives _ (by
      unfold sortWorld
      exact below_sorted hw hbw hbg) x
    have eg : ∀ args w, (callFunc 40 args).run Try.prog w = .ok (.enter 40 args) w := enters_of Try.func40 (by kernel_rfl) rfl
    have hcon := Try.slices_DeleteFunc encStr (fun _ => rfl) (fun x => decide (x ∈ S)) 40 #[.pointer (some ⟨B, 0, none⟩)] eg [] Try.zeroValue9 g 0 cap l.toArray w hp hpo hH (by simp; omega) (by simpa using h1)
    have e1 : (l.toArray.toList.filter fun x => !decide (x ∈ S)) = l.filter (notIn S) := rfl
    rw [e1] at hcon
    have e2 : l.toArray.size = l.length := by simp
    rw [e2] at hcon
    refine hcon.mono ?_
    rintro e w' ⟨rfl, q, rfl⟩
    have hle : (l.filter (notIn S)).length ≤ l.length := List.length_filter_le _ _
    have hc2 := Lib.ownsRow_putRow (q := q) (k := (l.filter (notIn S)).length) (ys := l.filter (notIn S) ++ List.replicate (l.length - (l.filter (notIn S)).length) []) h (by simp; omega) hle
    rw [List.take_left] at hc2
    exact ⟨_, rfl, hc2, Lib.below_putRow (Below.refl base w) hbg⟩

end Go.Proofs.Ytbbijhgiddbonaa
