/- The words for the program's sorted: its two rows, its boxes. -/
import Derived.Test.YtgingebdoppdbaaNodSortMath
import Derived.Test.YtgingebdoppdbaaNodRepl2
import Derived.Test.YtgingebdoppdbaaNodSorted
namespace Go.Proofs.Ytgingebdoppdbaa
open Go.RowKit Go.Sort
open Nw N8 Go.ChangeShapes Go.WideShapes
set_option linter.unusedVariables false
/-- BinarySearch at a list that holds x. -/
theorem Search_at (v : Value) (S : List L8) (hS : Asc S) (hSl : S.length ≤ 4398046511103) (x : ByteArray) (hx : x.data.toList ∈ S) (w : World) (h : Rd w v S) :
    Calls Try.prog 56 #[v, .string x] w fun e w' => ∃ (p : Nat) (hp : p < S.length), S[p]'hp = x.data.toList ∧ e = .returned (.tuple #[.int .i64 (p : Int), .bool true]) ∧ ∃ q, w' = w.drewN q := by
  rcases h.cases with ⟨a, cap, rfl, rfl, _⟩ | ⟨b, o, cap, rfl, h1, h2, h3, h4⟩
  · cases hx
  · have hc := Try.slices_BinarySearch_string b o S.length cap (fun t => if h : t < S.length then ba S[t] else x) x w (by omega) (fun j hj => by rw [h4 j hj]; simp [hj])
    have hf := found hS x (fun t => if h : t < S.length then ba S[t] else x) (fun t ht => by simp [ht]; rfl) (fun t ht => by simp [Nat.not_lt.2 ht])
    rw [hf, decide_eq_true hx] at hc
    rw [decide_eq_true hx] at hf
    obtain ⟨g1, g2⟩ := of_decide_eq_true hf
    refine hc.mono ?_
    rintro e w' ⟨rfl, q, rfl⟩
    refine ⟨_, g1, ?_, rfl, q, rfl⟩
    rw [dif_pos g1] at g2
    rw [← ba_data (S[_]'g1), g2]
/-- A row of strings of the call's own, over a set of blocks. -/
theorem rdS_of_owns {w : World} {base n : Nat} {e : TypeId} {v : Value} {l : List L8} (h : w.ownsRow base e 1 v n (l.map encStr)) (T : Nat → Prop) (hT : ∀ b, v.ownBlock = some b → T b) : RdS T w v l := by
  obtain ⟨a, cap, rfl, h1, h2, h3⟩ := rd_of_owns h
  refine ⟨a, cap, rfl, h1, h2, ?_⟩
  rcases h3 with h3 | ⟨b, o, rfl, h4, h5⟩
  · exact .inl h3
  · rcases h.2 with ⟨h0, _⟩ | ⟨g, cap', cur, h6, _⟩
    · cases h0
    · injection h6 with h6 _ _
      injection h6 with h6
      injection h6 with h6 h7 _
      subst h6; subst h7
      exact .inr ⟨b, 0, rfl, hT b rfl, h5⟩
/-- What sorted holds within its loop. -/
def LT (S : Nat → Prop) (w W : World) (d : Nd) (c0 c1 c2 c3 : Value) (kv : Value) (K : List L8) (v : Value) (M : List Nd) : Prop :=
  (∀ b, S b → b < w.heap.size) ∧ BxS S w W d c0 c1 c2 c3 ∧ W.ownsRow (w.heap.size + 2) 9 1 kv K.length (K.map encStr) ∧ ∃ qs, KO (Own S w W v) (w.heap.size + 2) W v qs M
section
variable {S : Nat → Prop} {w W W' : World} {d : Nd} {c0 c1 c2 c3 kv v : Value} {K : List L8} {M : List Nd}
theorem bxs_size (h : BxS S w W d c0 c1 c2 c3) : w.heap.size + 2 ≤ W.heap.size := h.2.2.1.lt
theorem bxs_far (hS : ∀ b, S b → b < w.heap.size) (h : BxS S w W d c0 c1 c2 c3) (hb : Below (w.heap.size + 2) W W') : BxS S w W' d c0 c1 c2 c3 :=
  ⟨h.1.trans (hb.mono (by omega)), h.2.1.below hb (by omega), h.2.2.1.below hb (by omega), NdC.keep (fun b hs => ⟨hs, hb.block b (by have := hS b hs; omega)⟩) d h.2.2.2⟩
theorem LT.go (h : LT S w W d c0 c1 c2 c3 kv K v M) (hb : Below W.heap.size W W') : LT S w W' d c0 c1 c2 c3 kv K v M := by
  obtain ⟨h0, h1, h2, qs, h3⟩ := h
  have hs := bxs_size h1
  refine ⟨h0, h1.go h0 hb, owns_below h2 hb, qs, h3.keep (fun b hx => ?_) fun b hx => hb.block b (h3.1.lt b hx).2⟩
  rcases hx with hx | ⟨a1, a2, a3⟩
  · exact ⟨.inl hx, hb.block b (by have := h0 b hx; omega)⟩
  · exact ⟨.inr ⟨a1, Nat.lt_of_lt_of_le a2 hb.size, a3⟩, hb.block b a2⟩
theorem LT.put {h cap n : Nat} (hl : LT S w W d c0 c1 c2 c3 kv K (.slice (some ⟨h, 0, none⟩) n cap) M) (hn : M.length = n) (j : Nat) (hj : j < M.length) (e : Nd) (q : Q4) (w1 : World) (hw1 : h < w1.heap.size) (hw2 : w.heap.size + 2 ≤ w1.heap.size) (he : NdC (New S w1 W) W e q.a q.b q.c q.d) :
    LT S w (put4at W h (j * 4) q.a q.b q.c q.d) d c0 c1 c2 c3 kv K (.slice (some ⟨h, 0, none⟩) n cap) (M.set j e) := by
  obtain ⟨h0, h1, h2, qs, h3⟩ := hl
  have hbh : w.heap.size + 2 ≤ h := (h3.1.lt h rfl).1
  have hO : ∀ b, Own S w W (.slice (some ⟨h, 0, none⟩) n cap) b → b ≠ h := by
    intro b hb
    rcases hb with hb | ⟨_, _, a3⟩
    · have := h0 b hb; omega
    · rintro rfl; exact a3 rfl
  refine ⟨h0, bxs_far h0 h1 (below_put4at (Below.refl _ _) hbh _ _ _ _), owns_keep h2 fun g hg => put4at_oth g ?_ _ _ _ _, qs.set j q, ?_⟩
  · rintro rfl
    exact owns_apart h2 h3.1 (by decide) hg rfl
  have hk := h3.stored hn hO j hj e q (NdC.keep (fun b hb => ⟨?_, rfl⟩) e he)
  · exact hk.keep (fun b hb => ⟨by unfold Own; rw [put4at_size]; exact hb, rfl⟩) fun _ _ => rfl
  · rcases hb with hb | ⟨a1, a2⟩
    · exact .inl hb
    · refine .inr ⟨by omega, a2, fun e => ?_⟩
      have e' : some h = some b := e
      injection e' with e'
      omega
/-- The end of sorted. -/
theorem LT.done {k : Int} {t : L8} {ks : List L8} {ds : List Nd} (h : LT S w W (.mk k t ks ds) (.int .i64 k) c1 c2 c3 kv K v M) :
    Below w.heap.size w (put4 W (w.heap.size + 1) (.int .i64 k) (.string (ba t)) kv v) ∧ NdC (New S w (put4 W (w.heap.size + 1) (.int .i64 k) (.string (ba t)) kv v)) (put4 W (w.heap.size + 1) (.int .i64 k) (.string (ba t)) kv v) (.mk k t K M) (.int .i64 k) (.string (ba t)) kv v := by
  obtain ⟨h0, h1, h2, qs, h3⟩ := h
  have hs := bxs_size h1
  have hbb : Below (w.heap.size + 1) W (put4 W (w.heap.size + 1) (.int .i64 k) (.string (ba t)) kv v) := below_put4 (Below.refl _ _) (Nat.le_refl _) _ _ _ _
  refine ⟨h1.1.trans (hbb.mono (by omega)), ?_⟩
  have hT : NdC (fun b => S b ∨ (w.heap.size + 2 ≤ b ∧ b < W.heap.size)) W (.mk k t K M) (.int .i64 k) (.string (ba t)) kv v := by
    rw [NdC]
    refine ⟨rfl, rfl, rdS_of_owns h2 _ fun b hb => .inr (h2.lt b hb), ?_⟩
    exact h3.kdS (fun b hb => hb.imp id fun x => ⟨x.1, x.2.1⟩) fun b hb => .inr (h3.1.lt b hb)
  refine NdC.keep (fun b hb => ?_) _ hT
  rcases hb with hb | ⟨a1, a2⟩
  · exact ⟨.inl hb, hbb.block b (by have := h0 b hb; omega)⟩
  · exact ⟨.inr ⟨by omega, by rw [put4_size]; exact a2⟩, put4_oth b (by omega) _ _ _ _⟩
end
end Go.Proofs.Ytgingebdoppdbaa
