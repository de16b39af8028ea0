/- Rows of nodes that a call owns; slices.Clone at strings and at nodes. -/
import Derived.Test.YtgingebdoppdbaaNodEq
import Derived.Maps.AppendAt
import Derived.Lib.SliceRun
namespace Go.Proofs.Ytgingebdoppdbaa
open Go.RowKit Go.Sort
open Nw N8 Go.ChangeShapes Go.WideShapes
set_option linter.unusedVariables false
/-- The four cells of a node. -/
structure Q4 where
  a : Value
  b : Value
  c : Value
  d : Value
def flat4 : List Q4 → List Value
  | [] => []
  | q :: l => q.a :: q.b :: q.c :: q.d :: flat4 l
theorem flat4_len : ∀ (l : List Q4), (flat4 l).length = l.length * 4
  | [] => rfl
  | q :: l => by
    rw [flat4]
    simp only [List.length_cons, flat4_len l]; omega
theorem flat4_app : ∀ (l m : List Q4), flat4 (l ++ m) = flat4 l ++ flat4 m
  | [], m => rfl
  | q :: l, m => by rw [List.cons_append, flat4, flat4, flat4_app l m]; rfl
theorem flat4_get : ∀ (l : List Q4) (j : Nat) (h : j < l.length), (flat4 l)[j * 4]? = some (l[j]'h).a ∧ (flat4 l)[j * 4 + 1]? = some (l[j]'h).b ∧ (flat4 l)[j * 4 + 2]? = some (l[j]'h).c ∧ (flat4 l)[j * 4 + 3]? = some (l[j]'h).d
  | q :: l, 0, _ => ⟨rfl, rfl, rfl, rfl⟩
  | q :: l, j + 1, h => by
    have := flat4_get l j (Nat.lt_of_succ_lt_succ h)
    rw [flat4, show (j + 1) * 4 = j * 4 + 4 by omega]
    exact this
theorem flat4_set : ∀ (l : List Q4) (j : Nat) (q : Q4), ((((flat4 l).set (j * 4) q.a).set (j * 4 + 1) q.b).set (j * 4 + 2) q.c).set (j * 4 + 3) q.d = flat4 (l.set j q)
  | [], _, _ => rfl
  | p :: l, 0, q => rfl
  | p :: l, j + 1, q => by
    have := flat4_set l j q
    rw [List.set_cons_succ, flat4, flat4, show (j + 1) * 4 = j * 4 + 4 by omega, ← this]
    rfl
theorem flat4_take : ∀ (l : List Q4) (n : Nat), (flat4 l).take (n * 4) = flat4 (l.take n)
  | [], n => by simp [flat4]
  | p :: l, 0 => rfl
  | p :: l, n + 1 => by
    rw [show (n + 1) * 4 = n * 4 + 4 by omega, flat4, List.take_succ_cons, List.take_succ_cons, List.take_succ_cons, List.take_succ_cons, flat4_take l n, List.take_succ_cons]; rfl
theorem flat4_drop : ∀ (l : List Q4) (n : Nat), (flat4 l).drop (n * 4) = flat4 (l.drop n)
  | [], n => by simp [flat4]
  | p :: l, 0 => rfl
  | p :: l, n + 1 => by
    rw [show (n + 1) * 4 = n * 4 + 4 by omega, flat4, List.drop_succ_cons, List.drop_succ_cons, List.drop_succ_cons, List.drop_succ_cons, flat4_drop l n, List.drop_succ_cons]
theorem flat4_inv : ∀ (l : List Q4) (i : Nat) (u : Value), (flat4 l)[i]? = some u → ∃ (j : Nat) (h : j < l.length), (i = j * 4 ∧ u = (l[j]'h).a) ∨ (i = j * 4 + 1 ∧ u = (l[j]'h).b) ∨ (i = j * 4 + 2 ∧ u = (l[j]'h).c) ∨ (i = j * 4 + 3 ∧ u = (l[j]'h).d)
  | [], i, u, h => by cases h
  | p :: l, 0, u, h => ⟨0, Nat.succ_pos _, .inl ⟨rfl, by injection h with h; exact h.symm⟩⟩
  | p :: l, 1, u, h => ⟨0, Nat.succ_pos _, .inr (.inl ⟨rfl, by injection h with h; exact h.symm⟩)⟩
  | p :: l, 2, u, h => ⟨0, Nat.succ_pos _, .inr (.inr (.inl ⟨rfl, by injection h with h; exact h.symm⟩))⟩
  | p :: l, 3, u, h => ⟨0, Nat.succ_pos _, .inr (.inr (.inr ⟨rfl, by injection h with h; exact h.symm⟩))⟩
  | p :: l, i + 4, u, h => by
    obtain ⟨j, hj, hc⟩ := flat4_inv l i u h
    refine ⟨j + 1, Nat.succ_lt_succ hj, ?_⟩
    rcases hc with ⟨rfl, e⟩ | ⟨rfl, e⟩ | ⟨rfl, e⟩ | ⟨rfl, e⟩
    · exact .inl ⟨by omega, e⟩
    · exact .inr (.inl ⟨by omega, e⟩)
    · exact .inr (.inr (.inl ⟨by omega, e⟩))
    · exact .inr (.inr (.inr ⟨by omega, e⟩))
def NdQ (S : Nat → Prop) (w : World) (d : Nd) (q : Q4) : Prop := NdC S w d q.a q.b q.c q.d
theorem NdC.cellsOk {S : Nat → Prop} {w : World} {d : Nd} {c0 c1 c2 c3 : Value} (h : NdC S w d c0 c1 c2 c3) :
    ∃ (k : Int) (s : ByteArray) (a : Option Addr) (n c : Nat) (A : Option Addr) (m q : Nat), c0 = .int .i64 k ∧ c1 = .string s ∧ c2 = .slice a n c ∧ c3 = .slice A m q := by
  cases d with
  | mk k t ks ds =>
    rw [NdC] at h
    obtain ⟨h0, h1, ⟨a, c, h4, _⟩, A, cap, h3, _⟩ := h
    exact ⟨k, _, a, _, c, A, _, cap, h0, h1, h4, h3⟩
theorem NdQ.one {S : Nat → Prop} {w : World} {d : Nd} {q : Q4} (h : NdQ S w d q) : q.a.oneCell' = true ∧ q.b.oneCell' = true ∧ q.c.oneCell' = true ∧ q.d.oneCell' = true := by
  obtain ⟨k, s, a, n, c, A, m, r, h0, h1, h2, h3⟩ := NdC.cellsOk h
  rw [h0, h1, h2, h3]
  exact ⟨rfl, rfl, rfl, rfl⟩
theorem flat4_one {S : Nat → Prop} {w : World} {ds : List Nd} {qs : List Q4} (hl : qs.length = ds.length) (h : ∀ (j : Nat) (h : j < qs.length) (g : j < ds.length), NdQ S w (ds[j]'g) (qs[j]'h)) : ∀ u ∈ flat4 qs, u.oneCell' = true := by
  intro u hu
  obtain ⟨i, hi, e⟩ := List.mem_iff_getElem.1 hu
  obtain ⟨j, hj, hc⟩ := flat4_inv qs i u (by rw [List.getElem?_eq_getElem hi, e])
  obtain ⟨o0, o1, o2, o3⟩ := (h j hj (by omega)).one
  rcases hc with ⟨-, e⟩ | ⟨-, e⟩ | ⟨-, e⟩ | ⟨-, e⟩ <;> rw [e] <;> assumption
/-- As Kd, over a set of blocks. -/
def KdS (S : Nat → Prop) (w : World) (v : Value) (ds : List Nd) : Prop :=
  ∃ (A : Option Addr) (cap : Nat), v = .slice A ds.length cap ∧ ds.length ≤ cap ∧ cap ≤ maxLen ∧ (A = none → cap = 0) ∧ NdK S w ds A 0
theorem list_q {P : Nat → Q4 → Prop} : ∀ (n : Nat), (∀ i, i < n → ∃ d, P i d) → ∃ ds : List Q4, ds.length = n ∧ ∀ (i : Nat) (h : i < ds.length), P i (ds[i]'h)
  | 0, _ => ⟨[], rfl, fun i h => absurd h (Nat.not_lt_zero _)⟩
  | n + 1, h => by
    obtain ⟨ds, hl, hp⟩ := list_q n fun i hi => h i (by omega)
    obtain ⟨d, hd⟩ := h n (by omega)
    refine ⟨ds ++ [d], by rw [List.length_append, hl]; rfl, fun i hi => ?_⟩
    by_cases hin : i < ds.length
    · rw [List.getElem_append_left hin]; exact hp i hin
    · have : i = n := by rw [List.length_append] at hi; have : i < ds.length + 1 := hi; omega
      subst this
      rw [List.getElem_append_right (by omega)]
      simp only [hl, Nat.sub_self, List.getElem_cons_zero]
      exact hd
/-- A slice of nodes, as its cells. -/
theorem KdS.quads {S : Nat → Prop} {w : World} {v : Value} {ds : List Nd} (h : KdS S w v ds) :
    ∃ qs : List Q4, qs.length = ds.length ∧ (∀ (j : Nat) (h : j < qs.length) (g : j < ds.length), NdQ S w (ds[j]'g) (qs[j]'h)) ∧
      ∀ (A : Addr) (n cap : Nat), v = .slice (some A) n cap → ∀ i u, (flat4 qs)[i]? = some u → w.cell? (A.add i) = some u := by
  obtain ⟨A, cap, rfl, h1, h2, h3, h4⟩ := h
  have key : ∀ j, j < ds.length → ∃ q : Q4, ∃ (b o : Nat), A = some ⟨b, o, none⟩ ∧ w.cell? ⟨b, o + j * 4, none⟩ = some q.a ∧ w.cell? ⟨b, o + j * 4 + 1, none⟩ = some q.b ∧
      w.cell? ⟨b, o + j * 4 + 2, none⟩ = some q.c ∧ w.cell? ⟨b, o + j * 4 + 3, none⟩ = some q.d ∧ ∀ g : j < ds.length, NdQ S w (ds[j]'g) q := by
    intro j hj
    obtain ⟨b, o, c0, c1, c2, c3, hA, hS, e0, e1, e2, e3, hd⟩ := NdK.at_ h4 j hj
    rw [Nat.zero_add] at e0 e1 e2 e3
    exact ⟨⟨c0, c1, c2, c3⟩, b, o, hA, e0, e1, e2, e3, fun _ => hd⟩
  obtain ⟨qs, hl, hp⟩ := list_q ds.length key
  refine ⟨qs, hl, fun j hj g => ?_, fun A' n' cap' hA' i u hu => ?_⟩
  · obtain ⟨b, o, _, _, _, _, _, hd⟩ := hp j hj
    exact hd g
  · injection hA' with hA' _ _
    obtain ⟨j, hj, hc⟩ := flat4_inv qs i u hu
    obtain ⟨b, o, hA, e0, e1, e2, e3, _⟩ := hp j hj
    rw [hA] at hA'
    injection hA' with hA'
    subst hA'
    rw [add_plain]
    rcases hc with ⟨rfl, rfl⟩ | ⟨rfl, rfl⟩ | ⟨rfl, rfl⟩ | ⟨rfl, rfl⟩
    · exact e0
    · exact e1
    · exact e2
    · exact e3
/-- A row of nodes of the call's own; the nodes' blocks are of S. -/
def KO (S : Nat → Prop) (base : Nat) (w : World) (v : Value) (qs : List Q4) (ds : List Nd) : Prop :=
  w.ownsRow base 25 4 v ds.length (flat4 qs) ∧ qs.length = ds.length ∧ ∀ (j : Nat) (h : j < qs.length) (g : j < ds.length), NdQ S w (ds[j]'g) (qs[j]'h)
theorem owns_keep {w w' : World} {base n size : Nat} {e : TypeId} {v : Value} {xs : List Value} (h : w.ownsRow base e size v n xs) (hr : ∀ g, v.ownBlock = some g → w'.heap[g]? = w.heap[g]?) : w'.ownsRow base e size v n xs := by
  refine ⟨h.1, ?_⟩
  rcases h.2 with h0 | ⟨g, cap, cur, h1, h2, h3, h4⟩
  · exact .inl h0
  · exact .inr ⟨g, cap, cur, h1, h2, (hr g (by rw [h1]; rfl)).trans h3, h4⟩
theorem owns_low {w : World} {base base' n size : Nat} {e : TypeId} {v : Value} {xs : List Value} (h : w.ownsRow base e size v n xs) (hb : base' ≤ base) : w.ownsRow base' e size v n xs := by
  refine ⟨h.1, ?_⟩
  rcases h.2 with h0 | ⟨g, cap, cur, h0, hg, r⟩
  · exact .inl h0
  · exact .inr ⟨g, cap, cur, h0, Nat.le_trans hb hg, r⟩
theorem owns_below {w w' : World} {base n size : Nat} {e : TypeId} {v : Value} {xs : List Value} (h : w.ownsRow base e size v n xs) (hb : Below w.heap.size w w') : w'.ownsRow base e size v n xs :=
  owns_keep h fun g hg => hb.block g (h.lt g hg).2
/-- Rows of elements of different types lie apart. -/
theorem owns_apart {w : World} {base base' n n' size size' : Nat} {e e' : TypeId} {v v' : Value} {xs xs' : List Value} (h : w.ownsRow base e size v n xs) (h' : w.ownsRow base' e' size' v' n' xs') (hne : e ≠ e') {g : Nat} (hg : v.ownBlock = some g) : v'.ownBlock ≠ some g := by
  intro hg'
  rcases h.2 with ⟨h0, _⟩ | ⟨g1, cap, cur, h1, h2, h3, h4⟩
  · rw [h0] at hg; cases hg
  · rcases h'.2 with ⟨h0, _⟩ | ⟨g2, cap', cur', k1, k2, k3, k4⟩
    · rw [h0] at hg'; cases hg'
    · rw [h1] at hg
      rw [k1] at hg'
      have e1 : g1 = g := by injection hg
      have e2 : g2 = g := by injection hg'
      subst e1; subst e2
      rw [h3] at k3
      injection k3 with k3
      injection k3 with _ k3 _
      exact hne k3
theorem KO.keep {S T : Nat → Prop} {base : Nat} {w w' : World} {v : Value} {qs : List Q4} {ds : List Nd} (h : KO S base w v qs ds) (hk : ∀ b, S b → T b ∧ w'.heap[b]? = w.heap[b]?) (hr : ∀ g, v.ownBlock = some g → w'.heap[g]? = w.heap[g]?) : KO T base w' v qs ds :=
  ⟨owns_keep h.1 hr, h.2.1, fun j hj g => NdC.keep hk _ (h.2.2 j hj g)⟩
theorem KO.below {S : Nat → Prop} {base : Nat} {w w' : World} {v : Value} {qs : List Q4} {ds : List Nd} (h : KO S base w v qs ds) (hS : ∀ b, S b → b < w.heap.size) (hb : Below w.heap.size w w') : KO S base w' v qs ds :=
  h.keep (fun b hs => ⟨hs, hb.block b (hS b hs)⟩) fun g hg => hb.block g (h.1.lt g hg).2
theorem KO.low {S : Nat → Prop} {base base' : Nat} {w : World} {v : Value} {qs : List Q4} {ds : List Nd} (h : KO S base w v qs ds) (hb : base' ≤ base) : KO S base' w v qs ds := ⟨owns_low h.1 hb, h.2⟩
/-- What a call owns reads as nodes. -/
theorem KO.kd {S : Nat → Prop} {base : Nat} {w : World} {v : Value} {qs : List Q4} {ds : List Nd} (h : KO S base w v qs ds) (hS : ∀ b, S b → b < w.heap.size) : Kd w v ds := by
  rcases h.1.2 with ⟨h0, hn⟩ | ⟨g, cap, cur, h1, h2, h3, h4, h5, h6, h7⟩
  · obtain rfl : ds = [] := List.length_eq_zero_iff.1 hn
    exact ⟨none, 0, h0, Nat.le_refl _, Nat.zero_le _, fun _ => rfl, by rw [NdK]; trivial⟩
  · subst h1
    refine ⟨some ⟨g, 0, none⟩, cap, rfl, h4, h5, fun h => (by cases h), ndK_of ds 0 fun j hj => ?_⟩
    have hq : j < qs.length := by rw [h.2.1]; exact hj
    obtain ⟨f0, f1, f2, f3⟩ := flat4_get qs j hq
    have hg : g < w.heap.size := (h.1.lt g rfl).2
    refine ⟨g, 0, _, _, _, _, rfl, hg, ?_, ?_, ?_, ?_, NdC.keep (fun b hs => ⟨hS b hs, rfl⟩) _ (h.2.2 j hq hj)⟩
    · rw [Nat.zero_add, Nat.zero_add]; exact (h.1.cellAt (j * 4) (by omega)).trans f0
    · rw [Nat.zero_add, Nat.zero_add]; exact (h.1.cellAt (j * 4 + 1) (by omega)).trans f1
    · rw [Nat.zero_add, Nat.zero_add]; exact (h.1.cellAt (j * 4 + 2) (by omega)).trans f2
    · rw [Nat.zero_add, Nat.zero_add]; exact (h.1.cellAt (j * 4 + 3) (by omega)).trans f3
theorem infoN0 : (Try.prog.info? 25).map (fun i => (i.zero, i.size, i.bytes)) = some (some (.agg #[.int .i64 0, .string ⟨#[]⟩, .slice none 0 0, .slice none 0 0]), 4, 72) := by kernel_rfl
theorem infoN : ∃ i, Try.prog.info? 25 = some i ∧ i.zero = some (.agg #[.int .i64 0, .string ⟨#[]⟩, .slice none 0 0, .slice none 0 0]) ∧ i.size = 4 ∧ i.bytes = 72 := by
  have h := infoN0
  cases hi : Try.prog.info? 25 with
  | none => rw [hi] at h; cases h
  | some i =>
    rw [hi] at h
    simp only [Option.map_some, Option.some.injEq, Prod.mk.injEq] at h
    exact ⟨i, rfl, h.1, h.2.1, h.2.2⟩
theorem cells_alloc {w : World} {o : Obj} {p : Addr} {v : Value} (h : w.cell? p = some v) : (w.alloc o).cell? p = some v :=
  (World.cell?_of_block (Below.heap_alloc w o p.block (cell_lt h))).trans h
set_option maxHeartbeats 2000000 in
/-- slices.Clone at strings. -/
theorem CloneS_any (v : Value) (l : List L8) (w : World) (h : Rd w v l) (hl : l.length ≤ 100000) :
    Calls Try.prog 40 #[v] w fun e w' => ∃ v', e = .returned v' ∧ w'.ownsRow w.heap.size 9 1 v' l.length (l.map encStr) ∧ Below w.heap.size w w' := by
  rcases h.cases with ⟨a, cap, rfl, rfl, hm, hn⟩ | ⟨b, o, cap, rfl, h1, h2, h3, h4⟩
  · cases a with
    | none =>
      refine (Try.slices_Clone_string_nil 0 cap w).mono ?_
      rintro e w' ⟨rfl, rfl⟩
      exact ⟨_, rfl, World.ownsRow_nil _ _ _ _, Below.refl _ _⟩
    | some A =>
      refine (Try.slices_Clone_string_zero A cap w).mono ?_
      rintro e w' ⟨v', rfl, ho, -, hb⟩
      exact ⟨v', rfl, ho, hb⟩
  · refine (Try.slices_Clone_string b o l.length cap (l.map ba) w (by simp) (by omega) (fun j hj => by rw [map_ba l j hj]; exact h4 j (by simpa using hj))).mono ?_
    rintro e w' ⟨v', rfl, ho, -, hb⟩
    refine ⟨v', rfl, ?_, hb⟩
    rw [List.take_of_length_le (by simp), List.map_map] at ho
    exact ho
set_option maxRecDepth 100000 in
set_option maxHeartbeats 2000000 in
/-- slices.Clone at nodes. -/
theorem CloneN_any (S : Nat → Prop) (v : Value) (ds : List Nd) (w : World) (hS : ∀ b, S b → b < w.heap.size) (h : KdS S w v ds) (hl : ds.length ≤ 100000) :
    Calls Try.prog 41 #[v] w fun e w' => ∃ v', e = .returned v' ∧ (∃ qs, KO S w.heap.size w' v' qs ds) ∧ Below w.heap.size w w' := by
  obtain ⟨qs, hq, hqd, hqc⟩ := h.quads
  obtain ⟨A, cap, rfl, h1, h2, h3, -⟩ := h
  cases A with
  | none =>
    have hc0 := h3 rfl
    subst hc0
    have hd0 : ds = [] := List.length_eq_zero_iff.1 (by omega)
    subst hd0
    obtain rfl : qs = [] := List.length_eq_zero_iff.1 hq
    clear hqd hqc
    have q23 : ∀ (w : World) (a : Option Addr) (n c n' c' : Nat), (binOp .eql 23 (.slice a n c) (.slice none n' c')).run Try.prog w = .ok (.bool a.isNone) w := fun w a n c n' c' => Lib.run_eql_slice_nil w _ _ a n c n' c' Try.underlying23
    go_enter Try.func41, Try.ntmps41
    go_wp2
    go_ret
    exact ⟨_, rfl, ⟨[], World.ownsRow_nil _ _ _ _, rfl, fun j hj => absurd hj (Nat.not_lt_zero _)⟩, Below.refl _ _⟩
  | some A =>
    obtain ⟨i0, hi, hz0, hz1, hz2⟩ := infoN
    have HQC := Lib.hid (hqc A ds.length cap rfl)
    have HQD := Lib.hid hqd
    have HONE := Lib.hid (flat4_one hq hqd)
    have HFL : Hid ((flat4 qs).length = ds.length * 4) := Lib.hid (by rw [flat4_len, hq])
    have HS := Lib.hid hS
    have HQ := Lib.hid hq
    obtain ⟨n, hn⟩ : ∃ n, ds.length = n := ⟨_, rfl⟩
    have HN := Lib.hid hn
    rw [hn] at h1 hl HFL ⊢
    obtain ⟨X, hX⟩ : ∃ X, flat4 qs = X := ⟨_, rfl⟩
    have HX := Lib.hid hX
    rw [hX] at HQC HONE HFL
    clear hq hqd hqc hS hn hX h3
    unfold maxLen at h2
    have q23 : ∀ (w : World) (a : Option Addr) (n c n' c' : Nat), (binOp .eql 23 (.slice a n c) (.slice none n' c')).run Try.prog w = .ok (.bool a.isNone) w := fun w a n c n' c' => Lib.run_eql_slice_nil w _ _ a n c n' c' Try.underlying23
    go_enter Try.func41, Try.ntmps41
    go_wp2_with (at_builtin; refine wpList_append_own _ rfl _ _ 23 rfl w.heap.size 25 i0 _ 4 72 Try.underlying23 hi hz0 hz1 hz2 rfl (by decide) _ _ _ rfl (World.ownsRow_made w #[] 0 (Nat.le_refl _) (Nat.zero_le _) (by simp)) A n cap X rfl ?qc1 ?qc2 ?qc3 ?qc4 ?qc5 ?qc6 ?_)
    case qc1 => exact HFL.out
    case qc2 =>
      intro j u hj
      exact cells_alloc (HQC.out j u hj)
    case qc3 => exact HONE.out
    case qc4 => rw [Nat.zero_add]; unfold maxLen; omega
    case qc5 => rw [Nat.zero_add]; omega
    case qc6 => simp
    intro v' w1 hown hgrow hnil
    have HO := Lib.hid hown
    have HB : Hid (Below w.heap.size w w1) := Lib.hid (((Below.refl _ w).alloc (Nat.le_refl _) _).grown hgrow (by simp) (by intro k hk; simp [Value.ownBlock] at hk; omega))
    clear hown hgrow hnil
    go_wp2
    go_ret
    refine ⟨v', rfl, ⟨qs, by rw [HN.out, HX.out]; simpa using HO.out, HQ.out, fun j hj g => NdC.old (HQD.out j hj g) HS.out HB.out⟩, HB.out⟩
end Go.Proofs.Ytgingebdoppdbaa
