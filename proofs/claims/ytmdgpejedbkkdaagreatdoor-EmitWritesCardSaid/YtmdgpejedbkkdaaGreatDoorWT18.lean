/- NdRow, LinRow, LinSplit -/
import Derived.Deep.CutRange
import Derived.Deep.LoopGhost
import Derived.Deep.RegionHeld3
import Derived.Deep.RegionLaw
import Derived.Laws.AppendOwnNone
import Derived.Lib.BufferMore
import Derived.Lib.OwnBridge
import Derived.Lib.SliceRun
import Derived.Maps.AppendAt
import Derived.Test.YtmdgpejedbkkdaaGreatDoorWT11
import Derived.Test.YtmdgpejedbkkdaaGreatDoorWT16
import Derived.Test.YtmdgpejedbkkdaaGreatDoorWT17
import Derived.Test.YtmdgpejedbkkdaaGreatDoorWT2
set_option linter.unusedVariables false
set_option linter.unusedSimpArgs false
set_option maxRecDepth 100000
set_option maxHeartbeats 16000000
open Go.Lib (hid)
namespace Go.Proofs.YtmdgpejedbkkdaaGreatDoor
section
open Go.RowKit Go.Sort
open Nw N8 Go.ChangeShapes Go.WideShapes
structure Q4 where
 a : Value
 b : Value
 c : Value
 d : Value
def flat4 : List Q4 → List Value
 | [] => []
 | q :: l => q.a :: q.b :: q.c :: q.d :: flat4 l
theorem flat4_len : ∀ (l : List Q4), (flat4 l).length = l.length * 4
 | [] => rfl
 | q :: l => by
  rw [flat4]
  simp only [List.length_cons, flat4_len l]; omega
theorem flat4_app : ∀ (l m : List Q4), flat4 (l ++ m) = flat4 l ++ flat4 m
 | [], m => rfl
 | q :: l, m => by rw [List.cons_append, flat4, flat4, flat4_app l m]; rfl
theorem flat4_get : ∀ (l : List Q4) (j : Nat) (h : j < l.length), (flat4 l)[j * 4]? = some (l[j]'h).a ∧ (flat4 l)[j * 4 + 1]? = some (l[j]'h).b ∧ (flat4 l)[j * 4 + 2]? = some (l[j]'h).c ∧ (flat4 l)[j * 4 + 3]? = some (l[j]'h).d
 | q :: l, 0, _ => ⟨rfl, rfl, rfl, rfl⟩
 | q :: l, j + 1, h => by
  have := flat4_get l j (Nat.lt_of_succ_lt_succ h)
  rw [flat4, show (j + 1) * 4 = j * 4 + 4 by omega]
  exact this
theorem flat4_inv : ∀ (l : List Q4) (i : Nat) (u : Value), (flat4 l)[i]? = some u → ∃ (j : Nat) (h : j < l.length), (i = j * 4 ∧ u = (l[j]'h).a) ∨ (i = j * 4 + 1 ∧ u = (l[j]'h).b) ∨ (i = j * 4 + 2 ∧ u = (l[j]'h).c) ∨ (i = j * 4 + 3 ∧ u = (l[j]'h).d)
 | [], i, u, h => by cases h
 | p :: l, 0, u, h => ⟨0, Nat.succ_pos _, .inl ⟨rfl, by injection h with h; exact h.symm⟩⟩
 | p :: l, 1, u, h => ⟨0, Nat.succ_pos _, .inr (.inl ⟨rfl, by injection h with h; exact h.symm⟩)⟩
 | p :: l, 2, u, h => ⟨0, Nat.succ_pos _, .inr (.inr (.inl ⟨rfl, by injection h with h; exact h.symm⟩))⟩
 | p :: l, 3, u, h => ⟨0, Nat.succ_pos _, .inr (.inr (.inr ⟨rfl, by injection h with h; exact h.symm⟩))⟩
 | p :: l, i + 4, u, h => by
  obtain ⟨j, hj, hc⟩ := flat4_inv l i u h
  refine ⟨j + 1, Nat.succ_lt_succ hj, ?_⟩
  rcases hc with ⟨rfl, e⟩ | ⟨rfl, e⟩ | ⟨rfl, e⟩ | ⟨rfl, e⟩
  ·exact .inl ⟨by omega, e⟩
  ·exact .inr (.inl ⟨by omega, e⟩)
  ·exact .inr (.inr (.inl ⟨by omega, e⟩))
  ·exact .inr (.inr (.inr ⟨by omega, e⟩))
def NdQ (S : Nat → Prop) (w : World) (d : Nd) (q : Q4) : Prop := NdC S w d q.a q.b q.c q.d
theorem NdC.cellsOk {S : Nat → Prop} {w : World} {d : Nd} {c0 c1 c2 c3 : Value} (h : NdC S w d c0 c1 c2 c3) :
  ∃ (k : Int) (s : ByteArray) (a : Option Addr) (n c : Nat) (A : Option Addr) (m q : Nat), c0 = .int .i64 k ∧ c1 = .string s ∧ c2 = .slice a n c ∧ c3 = .slice A m q := by
 cases d with
 | mk k t ks ds =>
  rw [NdC] at h
  obtain ⟨h0, h1, ⟨a, c, h4, _⟩, A, cap, h3, _⟩ := h
  exact ⟨k, _, a, _, c, A, _, cap, h0, h1, h4, h3⟩
theorem NdQ.one {S : Nat → Prop} {w : World} {d : Nd} {q : Q4} (h : NdQ S w d q) : q.a.oneCell' = true ∧ q.b.oneCell' = true ∧ q.c.oneCell' = true ∧ q.d.oneCell' = true := by
 obtain ⟨k, s, a, n, c, A, m, r, h0, h1, h2, h3⟩ := NdC.cellsOk h
 rw [h0, h1, h2, h3]
 exact ⟨rfl, rfl, rfl, rfl⟩
theorem flat4_one {S : Nat → Prop} {w : World} {ds : List Nd} {qs : List Q4} (hl : qs.length = ds.length) (h : ∀ (j : Nat) (h : j < qs.length) (g : j < ds.length), NdQ S w (ds[j]'g) (qs[j]'h)) : ∀ u ∈ flat4 qs, u.oneCell' = true := by
 intro u hu
 obtain ⟨i, hi, e⟩ := List.mem_iff_getElem.1 hu
 obtain ⟨j, hj, hc⟩ := flat4_inv qs i u (by rw [List.getElem?_eq_getElem hi, e])
 obtain ⟨o0, o1, o2, o3⟩ := (h j hj (by omega)).one
 rcases hc with ⟨-, e⟩ | ⟨-, e⟩ | ⟨-, e⟩ | ⟨-, e⟩ <;> rw [e] <;> assumption
def KdS (S : Nat → Prop) (w : World) (v : Value) (ds : List Nd) : Prop :=
 ∃ (A : Option Addr) (cap : Nat), v = .slice A ds.length cap ∧ ds.length ≤ cap ∧ cap ≤ maxLen ∧ (A = none → cap = 0) ∧ NdK S w ds A 0
def KO (S : Nat → Prop) (base : Nat) (w : World) (v : Value) (qs : List Q4) (ds : List Nd) : Prop :=
 w.ownsRow base 25 4 v ds.length (flat4 qs) ∧ qs.length = ds.length ∧ ∀ (j : Nat) (h : j < qs.length) (g : j < ds.length), NdQ S w (ds[j]'g) (qs[j]'h)
theorem owns_keep {w w' : World} {base n size : Nat} {e : TypeId} {v : Value} {xs : List Value} (h : w.ownsRow base e size v n xs) (hr : ∀ g, v.ownBlock = some g → w'.heap[g]? = w.heap[g]?) : w'.ownsRow base e size v n xs := by
 refine ⟨h.1, ?_⟩
 rcases h.2 with h0 | ⟨g, cap, cur, h1, h2, h3, h4⟩
 ·exact .inl h0
 ·exact .inr ⟨g, cap, cur, h1, h2, (hr g (by rw [h1]; rfl)).trans h3, h4⟩
theorem owns_low {w : World} {base base' n size : Nat} {e : TypeId} {v : Value} {xs : List Value} (h : w.ownsRow base e size v n xs) (hb : base' ≤ base) : w.ownsRow base' e size v n xs := by
 refine ⟨h.1, ?_⟩
 rcases h.2 with h0 | ⟨g, cap, cur, h0, hg, r⟩
 ·exact .inl h0
 ·exact .inr ⟨g, cap, cur, h0, Nat.le_trans hb hg, r⟩
theorem owns_below {w w' : World} {base n size : Nat} {e : TypeId} {v : Value} {xs : List Value} (h : w.ownsRow base e size v n xs) (hb : Below w.heap.size w w') : w'.ownsRow base e size v n xs :=
 owns_keep h fun g hg => hb.block g (h.lt g hg).2
theorem owns_apart {w : World} {base base' n n' size size' : Nat} {e e' : TypeId} {v v' : Value} {xs xs' : List Value} (h : w.ownsRow base e size v n xs) (h' : w.ownsRow base' e' size' v' n' xs') (hne : e ≠ e') {g : Nat} (hg : v.ownBlock = some g) : v'.ownBlock ≠ some g := by
 intro hg'
 rcases h.2 with ⟨h0, _⟩ | ⟨g1, cap, cur, h1, h2, h3, h4⟩
 ·rw [h0] at hg; cases hg
 ·rcases h'.2 with ⟨h0, _⟩ | ⟨g2, cap', cur', k1, k2, k3, k4⟩
  ·rw [h0] at hg'; cases hg'
  ·rw [h1] at hg
   rw [k1] at hg'
   have e1 : g1 = g := by injection hg
   have e2 : g2 = g := by injection hg'
   subst e1; subst e2
   rw [h3] at k3
   injection k3 with k3
   injection k3 with _ k3 _
   exact hne k3
theorem KO.keep {S T : Nat → Prop} {base : Nat} {w w' : World} {v : Value} {qs : List Q4} {ds : List Nd} (h : KO S base w v qs ds) (hk : ∀ b, S b → T b ∧ w'.heap[b]? = w.heap[b]?) (hr : ∀ g, v.ownBlock = some g → w'.heap[g]? = w.heap[g]?) : KO T base w' v qs ds :=
 ⟨owns_keep h.1 hr, h.2.1, fun j hj g => NdC.keep hk _ (h.2.2 j hj g)⟩
theorem KO.below {S : Nat → Prop} {base : Nat} {w w' : World} {v : Value} {qs : List Q4} {ds : List Nd} (h : KO S base w v qs ds) (hS : ∀ b, S b → b < w.heap.size) (hb : Below w.heap.size w w') : KO S base w' v qs ds :=
 h.keep (fun b hs => ⟨hs, hb.block b (hS b hs)⟩) fun g hg => hb.block g (h.1.lt g hg).2
theorem infoN0 : (Tryz.prog.info? 25).map (fun i => (i.zero, i.size, i.bytes)) = some (some (.agg #[.int .i64 0, .string ⟨#[]⟩, .slice none 0 0, .slice none 0 0]), 4, 72) := by kernel_rfl
theorem infoN : ∃ i, Tryz.prog.info? 25 = some i ∧ i.zero = some (.agg #[.int .i64 0, .string ⟨#[]⟩, .slice none 0 0, .slice none 0 0]) ∧ i.size = 4 ∧ i.bytes = 72 := by
 have h := infoN0
 cases hi : Tryz.prog.info? 25 with
 | none => rw [hi] at h; cases h
 | some i =>
  rw [hi] at h
  simp only [Option.map_some, Option.some.injEq, Prod.mk.injEq] at h
  exact ⟨i, rfl, h.1, h.2.1, h.2.2⟩
theorem cells_alloc {w : World} {o : Obj} {p : Addr} {v : Value} (h : w.cell? p = some v) : (w.alloc o).cell? p = some v :=
 (World.cell?_of_block (Below.heap_alloc w o p.block (cell_lt h))).trans h
theorem one_str (x : ByteArray) : ∀ u ∈ [Value.string x], u.oneCell' = true := by
 intro u hu
 rw [List.mem_singleton] at hu
 subst hu; rfl
theorem four_nd (k : Int) (s : ByteArray) (a : Option Addr) (n c : Nat) (A : Option Addr) (m q : Nat) : ∀ u ∈ [Value.int .i64 k, .string s, .slice a n c, .slice A m q], u.oneCell' = true := by
 intro u hu
 simp only [List.mem_cons, List.not_mem_nil, or_false] at hu
 rcases hu with rfl | rfl | rfl | rfl <;> rfl
theorem cell_grown {w w' : World} {row : Option Nat} {p : Addr} {v : Value} (h : w.cell? p = some v) (hg : w.grownBy w' row) (hne : row ≠ some p.block) : w'.cell? p = some v := hg.cell h fun e => hne e.symm
theorem news_blk {w : World} {B : Nat} (cs : Array Value) {t : TypeId} (hb : w.heap[B]? = some (.cells cs t (0, 0))) : ∀ j u, cs.toList[j]? = some u → w.cell? ((⟨B, 0, none⟩ : Addr).add j) = some u := by
 intro j u h
 rw [add_plain, Nat.zero_add, cell_of_row _ _ j cs t (0, 0) hb]
 simpa using h
theorem alloc_at (w : World) (o : Obj) : (w.alloc o).heap[w.heap.size]? = some o := heap_alloc_new w o
theorem alloc_at1 (w : World) (o p : Obj) : ((w.alloc p).alloc o).heap[w.heap.size + 1]? = some o := by
 have := heap_alloc_new (w.alloc p) o
 rwa [show (w.alloc p).heap.size = w.heap.size + 1 by simp] at this
theorem alloc_at0 (w : World) (o p : Obj) : ((w.alloc o).alloc p).heap[w.heap.size]? = some o := (Below.heap_alloc (w.alloc o) p w.heap.size (by simp)).trans (heap_alloc_new w o)
theorem set_oth (w : World) (p : Addr) (v : Value) (b : Nat) (hb : b ≠ p.block) : (w.setCell p v).heap[b]? = w.heap[b]? := Below.heap_setCell _ _ _ _ hb
theorem cell_set {w : World} {p r : Addr} {u x : Value} (h : w.cell? p = some u) (hp : p.block ≠ r.block) : (w.setCell r x).cell? p = some u := (World.cell?_of_block (set_oth _ _ _ _ hp)).trans h
theorem frozen_grown {w w' : World} {row : Option Nat} {p : Addr} (h : w.frozen? p = false) (hg : w.grownBy w' row) (hlt : p.block < w.heap.size) (hne : row ≠ some p.block) : w'.frozen? p = false :=
 (World.frozen?_of_block (hg.block p.block hlt fun e => hne e.symm)).trans h
theorem own_shape {w : World} {base n size : Nat} {e : TypeId} {v : Value} {xs : List Value} (h : w.ownsRow base e size v n xs) : ∃ a c, v = .slice a n c := by
 rcases h.2 with ⟨h0, h1⟩ | ⟨g, cap, cur, h0, _⟩
 ·subst h1; exact ⟨_, _, h0⟩
 ·exact ⟨_, _, h0⟩
theorem frozen_alloc {w : World} {o : Obj} {p : Addr} (h : w.frozen? p = false) (hlt : p.block < w.heap.size) : (w.alloc o).frozen? p = false :=
 (World.frozen?_of_block (Below.heap_alloc w o p.block hlt)).trans h
theorem KO.kdS {S T : Nat → Prop} {base : Nat} {w : World} {v : Value} {qs : List Q4} {ds : List Nd} (h : KO S base w v qs ds) (hT : ∀ b, S b → T b) (hv : ∀ b, v.ownBlock = some b → T b) : KdS T w v ds := by
 rcases h.1.2 with ⟨h0, hn⟩ | ⟨g, cap, cur, h1, h2, h3, h4, h5, h6, h7⟩
 ·obtain rfl : ds = [] := List.length_eq_zero_iff.1 hn
  exact ⟨none, 0, h0, Nat.le_refl _, Nat.zero_le _, fun _ => rfl, by rw [NdK]; trivial⟩
 ·subst h1
  refine ⟨some ⟨g, 0, none⟩, cap, rfl, h4, h5, fun h => (by cases h), ndK_of ds 0 fun j hj => ?_⟩
  have hq : j < qs.length := by rw [h.2.1]; exact hj
  obtain ⟨f0, f1, f2, f3⟩ := flat4_get qs j hq
  refine ⟨g, 0, _, _, _, _, rfl, hv g rfl, ?_, ?_, ?_, ?_, NdC.keep (fun b hs => ⟨hT b hs, rfl⟩) _ (h.2.2 j hq hj)⟩
  ·rw [Nat.zero_add, Nat.zero_add]; exact (h.1.cellAt (j * 4) (by omega)).trans f0
  ·rw [Nat.zero_add, Nat.zero_add]; exact (h.1.cellAt (j * 4 + 1) (by omega)).trans f1
  ·rw [Nat.zero_add, Nat.zero_add]; exact (h.1.cellAt (j * 4 + 2) (by omega)).trans f2
  ·rw [Nat.zero_add, Nat.zero_add]; exact (h.1.cellAt (j * 4 + 3) (by omega)).trans f3
theorem KdS.kid {S : Nat → Prop} {w : World} {A : Option Addr} {n cap : Nat} {ds : List Nd} (h : KdS S w (.slice A n cap) ds) (j : Nat) (hj : j < ds.length) :
  ∃ (b o : Nat) (e0 e1 e2 e3 : Value), A = some ⟨b, o, none⟩ ∧ S b ∧ w.cell? ⟨b, o + j * 4, none⟩ = some e0 ∧ w.cell? ⟨b, o + j * 4 + 1, none⟩ = some e1 ∧
    w.cell? ⟨b, o + j * 4 + 2, none⟩ = some e2 ∧ w.cell? ⟨b, o + j * 4 + 3, none⟩ = some e3 ∧ NdC S w (ds[j]'hj) e0 e1 e2 e3 := by
 obtain ⟨A', cap', h1, -, -, -, h5⟩ := h
 have hAe : A = A' := by injection h1
 subst hAe
 have := NdK.at_ h5 j hj
 rw [Nat.zero_add] at this
 exact this
theorem rdS_of_owns {w : World} {base n : Nat} {e : TypeId} {v : Value} {l : List L8} (h : w.ownsRow base e 1 v n (l.map encStr)) (T : Nat → Prop) (hT : ∀ b, v.ownBlock = some b → T b) : RdS T w v l := by
 obtain ⟨a, cap, rfl, h1, h2, h3⟩ := rd_of_owns h
 refine ⟨a, cap, rfl, h1, h2, ?_⟩
 rcases h3 with h3 | ⟨b, o, rfl, h4, h5⟩
 ·exact .inl h3
 ·rcases h.2 with ⟨h0, _⟩ | ⟨g, cap', cur, h6, _⟩
  ·cases h0
  ·injection h6 with h6 _ _
   injection h6 with h6
   injection h6 with h6 h7 _
   subst h6; subst h7
   exact .inr ⟨b, 0, rfl, hT b rfl, h5⟩
theorem step_append_own_at {P : Program} {ops : Array Oper} {o : Oper} {a : Act} {w : World} {K : Act → World → Prop} {Q : Exit → Act → World → Prop} {E : Prop} (hg : o.guard = none) (s x : Operand) (t : TypeId)
  (ho : o.op = .call { callee := .builtin .append, args := #[s, x], argTypes := #[t, t] })
  (base : Nat) (e : TypeId) (i : TypeInfo) (z : Value) (size bytes : Nat) (ht : P.underlying t = some (.slice e)) (hi : P.info? e = some i) (hz : i.zero = some z)
  (hsize : i.size = size) (hby : i.bytes = bytes) (hzs : z.cells.size = size) (hsz : 0 < size)
  (v : Value) (n : Nat) (xs : List Value) (hs : a.eval s = v) (hown : w.ownsRow base e size v n xs)
  (ad : Addr) (m c : Nat) (news : List Value) (hx : a.eval x = .slice (some ad) m c) (hl : news.length = m * size) (hnews : ∀ j u, news[j]? = some u → w.cell? (ad.add j) = some u) (h1 : ∀ u ∈ news, u.oneCell' = true)
  (h63 : n + m ≤ maxLen) (hbytes : (n + m) * bytes ≤ 140737488355328) (hbase : base ≤ w.heap.size)
  (h : ∀ v' w', w'.ownsRow base e size v' (n + m) (xs ++ news) → w.grownBy w' v.ownBlock → (v'.ownBlock = v.ownBlock ∨ v'.ownBlock = some w.heap.size) → K (a.put o.dst v') w') :
  if Region.wanted o (yielded ops a.tmps) = true then Oper.wp P o a w K Q else E := by
 rw [if_pos (by simp [Region.wanted, hg])]
 obtain ⟨v', w', hr, h2, h3, h4, h5⟩ := run_append_own_at (P := P) w base t o.type e i z size bytes ht hi hz hsize hby hzs hsz v n xs hown ad m c news hl hnews h1 h63 hbytes hbase
 unfold Oper.wp execOp
 simp only [ho, resolve, invoke, builtin, Sem.run_bind, Sem.run_pure, Result.andThen_ok, List.map_toArray, List.map_cons, List.map_nil, hs, hx, hr]
 exact h v' w' h2 h3 h5
section
variable {S : Nat → Prop} {OUT : Nat} {G : World → Prop} {W0 W1 W2 wr : World} {k : Int} {T : ByteArray} {s7 s8 s' : Value} {l7 l' : List L8} {M : List Nd}
end
end
section
open Go.RowKit Go.Sort
open Q6
def encN (x : Ln) : List Value := [.int .i64 (x.no : Int), .int .i64 (x.ind : Int), .string ⟨x.text.toArray⟩]
def cellsN (ls : List Ln) : List Value := (ls.map encN).flatten
theorem cellsN_snoc (ls : List Ln) (x : Ln) : cellsN (ls ++ [x]) = cellsN ls ++ encN x := by unfold cellsN; simp
theorem cellsN_at (ls : List Ln) (k : Nat) (h : k < ls.length) : (cellsN ls)[k * 3]? = some (.int .i64 ((ls[k]'h).no : Int)) ∧ (cellsN ls)[k * 3 + 1]? = some (.int .i64 ((ls[k]'h).ind : Int)) ∧ (cellsN ls)[k * 3 + 2]? = some (.string ⟨(ls[k]'h).text.toArray⟩) := by
 induction ls generalizing k with
 | nil => cases h
 | cons x ls ih =>
  have e : cellsN (x :: ls) = .int .i64 (x.no : Int) :: .int .i64 (x.ind : Int) :: .string ⟨x.text.toArray⟩ :: cellsN ls := rfl
  rw [e]
  cases k with
  | zero => exact ⟨rfl, rfl, rfl⟩
  | succ k =>
   have := ih k (Nat.lt_of_succ_lt_succ h)
   rw [show (k + 1) * 3 = k * 3 + 1 + 1 + 1 by omega, show k * 3 + 1 + 1 + 1 + 1 = k * 3 + 1 + 1 + 1 + 1 by rfl]
   refine ⟨?_, ?_, ?_⟩
   ·rw [List.getElem?_cons_succ, List.getElem?_cons_succ, List.getElem?_cons_succ]; exact this.1
   ·rw [List.getElem?_cons_succ, List.getElem?_cons_succ, List.getElem?_cons_succ]; exact this.2.1
   ·rw [show k * 3 + 1 + 1 + 1 + 2 = k * 3 + 2 + 1 + 1 + 1 by omega, List.getElem?_cons_succ, List.getElem?_cons_succ, List.getElem?_cons_succ]; exact this.2.2
theorem three_one (a b : Int) (t : ByteArray) : ∀ u ∈ [Value.int .i64 a, Value.int .i64 b, Value.string t], u.oneCell' = true := by
 intro u hu
 simp only [List.mem_cons, List.not_mem_nil, or_false] at hu
 rcases hu with rfl | rfl | rfl <;> rfl
theorem infoL0 : (Tryz.prog.info? 62).map (fun i => (i.zero, i.size, i.bytes)) = some (some (.agg #[.int .i64 0, .int .i64 0, .string ⟨#[]⟩]), 3, 32) := by kernel_rfl
theorem infoL : ∃ i, Tryz.prog.info? 62 = some i ∧ i.zero = some (.agg #[.int .i64 0, .int .i64 0, .string ⟨#[]⟩]) ∧ i.size = 3 ∧ i.bytes = 32 := by
 have h := infoL0
 cases hi : Tryz.prog.info? 62 with
 | none => rw [hi] at h; cases h
 | some i =>
  rw [hi] at h
  simp only [Option.map_some, Option.some.injEq, Prod.mk.injEq] at h
  exact ⟨i, rfl, h.1, h.2.1, h.2.2⟩
theorem owns_lower {w : World} {base base' n size : Nat} {e : TypeId} {v : Value} {xs : List Value} (h : w.ownsRow base e size v n xs) (hb : base' ≤ base) : w.ownsRow base' e size v n xs := by
 refine ⟨h.1, ?_⟩
 rcases h.2 with h0 | ⟨g, cap, cur, h1, h2, h3⟩
 ·exact .inl h0
 ·exact .inr ⟨g, cap, cur, h1, Nat.le_trans hb h2, h3⟩
def RowsIn (rows : List ByteArray) (w w' : World) : Prop := Below w.heap.size w w' ∧ w.heap.size + 1 ≤ w'.heap.size ∧ w'.heap[w.heap.size]? = some (.cells (rows.map Value.string).toArray 9 (0, 0))
theorem RowsIn.go {rows : List ByteArray} {w w1 w2 : World} (h : RowsIn rows w w1) (hb : Below w1.heap.size w1 w2) : RowsIn rows w w2 :=
 ⟨h.1.trans (hb.mono h.1.size), Nat.le_trans h.2.1 hb.size, (hb.block _ (Nat.lt_of_lt_of_le (Nat.lt_succ_self _) h.2.1)).trans h.2.2⟩
theorem RowsIn.grown {rows : List ByteArray} {w w1 w2 : World} {row : Option Nat} (h : RowsIn rows w w1) (hg : w1.grownBy w2 row) (hr : ∀ q, row = some q → w.heap.size + 1 ≤ q) : RowsIn rows w w2 :=
 ⟨h.1.grown hg h.1.size (fun q hq => by have := hr q hq; omega), Nat.le_trans h.2.1 hg.size, (hg.block _ (Nat.lt_of_lt_of_le (Nat.lt_succ_self _) h.2.1) (fun e => by have := hr _ e.symm; omega)).trans h.2.2⟩
theorem RowsIn.at_ {rows : List ByteArray} {w w1 : World} (h : RowsIn rows w w1) (k : Nat) (hk : k < rows.length) : w1.cell? ⟨w.heap.size, k, none⟩ = some (.string (rows[k]'hk)) := by
 rw [cell_of_row w1 w.heap.size k _ 9 (0, 0) h.2.2, List.getElem?_toArray, List.getElem?_map, List.getElem?_eq_getElem hk]; rfl
theorem split_rows (s : ByteArray) (w : World) (hw : SomeMax w) (hs : s.size ≤ 100000) : ∃ rows : List ByteArray, rows.map (·.data.toList) = rowsL s.data.toList ∧ 0 < rows.length ∧ rows.length ≤ s.size + 1 ∧
  Calls Tryz.prog 49 #[.string s, .string ⟨#[10]⟩] w fun e w' => e = .returned (.slice (some ⟨w.heap.size, 0, none⟩) rows.length rows.length) ∧ RowsIn rows w w' := by
 obtain ⟨m, hm⟩ := hw
 refine ⟨Lib.splitB ⟨#[10]⟩ 0 (Lib.countB s ⟨#[10]⟩) s, ?_, ?_, ?_, ?_⟩
 ·rw [Lib.splitB_data]; exact rows_split _
 ·rw [Lib.splitB_all ⟨#[10]⟩ (by decide) 0 _ s rfl]; exact Nat.succ_pos _
 ·rw [Lib.splitB_all ⟨#[10]⟩ (by decide) 0 _ s rfl]
  have := Lib.countB_le ⟨#[10]⟩ (by decide) s.size s (Nat.le_refl _)
  omega
 ·rw [Lib.splitB_all ⟨#[10]⟩ (by decide) 0 _ s rfl]
  refine (Tryz.strings_Split s ⟨#[10]⟩ m w (by omega) hm (by decide)).mono ?_
  rintro e w' ⟨rfl, rfl⟩
  exact ⟨rfl, (Below.refl _ _).alloc (Nat.le_refl _) _, by simp, row_new w _⟩
end
section
open Go.RowKit Go.Sort
open Q6
theorem parse_err (s : ByteArray) (no : Int) (w : World) (hw : SomeMax w) (hs : s.size ≤ 100000) (h : oneL s.data.toList = none) :
  Calls Tryz.prog 50 #[.string s, .int .i64 no] w fun e w' => e = .returned (.tuple #[.agg #[.int .i64 0, .int .i64 0, .string ⟨#[]⟩], .bool false]) ∧ Below w.heap.size w w' := by
 unfold oneL at h
 rw [sayL_con] at h
 unfold conL at h
 cases hc : conE (s.data.toList.drop (indN s.data.toList)) 0 with
 | none => exact parse_none s no w hw hs hc
 | some e =>
  rw [hc] at h
  obtain ⟨t, ht⟩ : ∃ t : ByteArray, (s.data.toList.drop (indN s.data.toList)).take (trimN (s.data.toList.drop (indN s.data.toList)) e) = t.data.toList := ⟨⟨((s.data.toList.drop (indN s.data.toList)).take (trimN (s.data.toList.drop (indN s.data.toList)) e)).toArray⟩, by simp⟩
  simp only [Option.bind_some, ht] at h
  rcases Bool.eq_false_or_eq_true (goodL t.data.toList) with hg | hg
  ·rw [if_pos hg] at h
   have h' : (if indN s.data.toList = 0 ∧ marker t.data.toList = true then (none : Option (Nat × List UInt8)) else some (indN s.data.toList, t.data.toList)) = none := h
   split at h'
   ·rename_i hm
    exact parse_mark s no w hw hs e _ rfl hc t ht hg hm.1 hm.2
   ·cases h'
  ·exact parse_bad s no w hw hs e _ rfl hc t ht hg
theorem parse_ok (s : ByteArray) (no : Int) (w : World) (hw : SomeMax w) (hs : s.size ≤ 100000) (i : Nat) (t : ByteArray) (h : oneL s.data.toList = some (i, t.data.toList)) :
  Calls Tryz.prog 50 #[.string s, .int .i64 no] w fun e w' => e = .returned (.tuple #[.agg #[.int .i64 no, .int .i64 (i : Int), .string t], .bool true]) ∧ Below w.heap.size w w' := by
 unfold oneL at h
 rw [sayL_con] at h
 unfold conL at h
 cases hc : conE (s.data.toList.drop (indN s.data.toList)) 0 with
 | none => rw [hc] at h; cases h
 | some e =>
  rw [hc] at h
  obtain ⟨u, hu⟩ : ∃ u : ByteArray, (s.data.toList.drop (indN s.data.toList)).take (trimN (s.data.toList.drop (indN s.data.toList)) e) = u.data.toList := ⟨⟨((s.data.toList.drop (indN s.data.toList)).take (trimN (s.data.toList.drop (indN s.data.toList)) e)).toArray⟩, by simp⟩
  simp only [Option.bind_some, hu] at h
  rcases Bool.eq_false_or_eq_true (goodL u.data.toList) with hg | hg
  ·rw [if_pos hg] at h
   have h' : (if indN s.data.toList = 0 ∧ marker u.data.toList = true then (none : Option (Nat × List UInt8)) else some (indN s.data.toList, u.data.toList)) = some (i, t.data.toList) := h
   split at h'
   ·cases h'
   ·rename_i hm
    have h2 := Option.some.inj h'
    have hi : indN s.data.toList = i := congrArg Prod.fst h2
    have htt : u = t := bytes_ext (congrArg Prod.snd h2)
    subst htt
    by_cases i0 : i = 0
    ·exact parse_flat s no w hw hs e i hi hc u hu hg i0 (Bool.eq_false_iff.2 fun hx => hm ⟨hi.trans i0, hx⟩)
    ·exact parse_deep s no w hw hs e i hi hc u hu hg i0
  ·rw [if_neg (by rw [hg]; decide)] at h; cases h
def GivesO (ls : List Ln) (n : Nat) (E : Int) (w : World) (e : Ending) (w' : World) : Prop :=
 ∃ v, e = .returned (.tuple #[v, .int .i64 (n : Int), .int .i64 E]) ∧ w'.ownsRow w.heap.size 62 3 v ls.length (cellsN ls) ∧ Below w.heap.size w w'
theorem walkL_bad {no : Nat} {acc : List Ln} {r : List UInt8} {rs : List (List UInt8)} (h : oneL r = none) : walkL no acc (r :: rs) = ([], no + 1, 3) := by rw [walkL, h]
theorem walkL_next {no : Nat} {acc : List Ln} {r : List UInt8} {rs : List (List UInt8)} {k : Nat} {t : List UInt8} (h : oneL r = some (k, t)) :
  walkL no acc (r :: rs) = walkL (no + 1) (if t = [] then acc else acc ++ [⟨no + 1, k, t⟩]) rs := by rw [walkL, h]
theorem rows_len (l : List UInt8) : ∀ r ∈ rowsL l, r.length ≤ l.length := by
 induction l with
 | nil => intro r hr; rw [List.mem_singleton.1 hr]; exact Nat.le_refl _
 | cons c l ih =>
  intro r hr
  unfold rowsL at hr
  split at hr
  ·rcases List.mem_cons.1 hr with rfl | hr
   ·exact Nat.zero_le _
   ·have := ih r hr; rw [List.length_cons]; omega
  ·split at hr
   ·rename_i r0 rs he
    rw [he] at ih
    rcases List.mem_cons.1 hr with rfl | hr
    ·have := ih r0 (List.mem_cons_self ..); rw [List.length_cons, List.length_cons]; omega
    ·have := ih r (List.mem_cons_of_mem _ hr); rw [List.length_cons]; omega
   ·rw [List.mem_singleton.1 hr]; simp
theorem Split_own (s : ByteArray) (w : World) (hw : SomeMax w) (hs : s.size ≤ 100000) (ls : List Ln) (n : Nat) (E : Int) (hf : fileL s.data.toList = (ls, n, E)) :
  Calls Tryz.prog 29 #[.string s] w (GivesO ls n E w) := by
 have HLEN := hid (len_eq s)
 by_cases hlen : (8192 : Int) < (s.size : Int)
 ·have HF : Hid (([], 0, 9) = (ls, n, E)) := hid (by rw [← hf]; unfold fileL; rw [if_pos (show 8192 < s.data.toList.length by rw [HLEN.out]; omega)])
  clear hf
  go_enter Tryz.func29, Tryz.ntmps29
  go_wp2
  go_ret3
  have h := HF.out
  cases h
  exact ⟨_, rfl, World.ownsRow_nil _ _ _ _, Below.refl _ _⟩
 obtain ⟨i0, hi, hz0, hz1, hz2⟩ := infoL
 obtain ⟨rows, hrows, hpos, hrl, hcall⟩ := split_rows s w hw hs
 have hwalk : walkL 0 [] (rows.map (·.data.toList)) = (ls, n, E) := by
  rw [hrows, walk_split _ _ _ _ (Nat.le_refl _), ← hf]
  unfold fileL
  rw [if_neg (show ¬ 8192 < s.data.toList.length by rw [HLEN.out]; omega)]
 have hsz : ∀ r ∈ rows, r.size ≤ 100000 := by
  intro r hr
  have := rows_len s.data.toList r.data.toList (by rw [← hrows]; exact List.mem_map_of_mem hr)
  rw [len_eq, len_eq] at this
  omega
 obtain ⟨R, hR⟩ : ∃ R, R = (ls, n, E) := ⟨_, rfl⟩
 rw [← hR] at hwalk
 have HR0 := hid hwalk
 have HRR := hid hR
 have HSZ := hid hsz
 obtain ⟨N, hN⟩ : ∃ N, rows.length = N := ⟨_, rfl⟩
 rw [hN] at hcall hpos hrl
 have hNs : N ≤ 100001 := by omega
 have HN := hid hN
 have HC := hid hcall
 have HW := hid hw
 clear hwalk hR hsz hrows hN hcall hf hw hpos hrl
 go_enter Tryz.func29, Tryz.ntmps29
 go_wp2_with (go_at_call 49; refine HC.out.mono ?_; rintro e w1 ⟨rfl, hr1⟩)
 have HB0 := hid hr1
 clear hr1
 go_loopw [5, 16] (fun sv si wr => ∃ (k : Nat) (acc : List Ln), k ≤ N ∧ acc.length ≤ k ∧ si = .int .i64 (k : Int) ∧ wr.ownsRow (w.heap.size + 1) 62 3 sv acc.length (cellsN acc) ∧
  RowsIn rows w wr ∧ Hid (walkL k acc ((rows.map (·.data.toList)).drop k) = R)) (fun _ si _ => N - (intOf si).toNat)
 case atStart => exact ⟨0, [], Nat.zero_le _, Nat.le_refl _, rfl, World.ownsRow_nil _ _ _ _, HB0.out, HR0⟩
 case round =>
  obtain ⟨k, acc, hk, hak, rfl, hown, hrin, HW1⟩ := hrel
  have HB := hid hrin
  clear hrin
  by_cases hlt : k < N
  ·have hkr : k < rows.length := by rw [HN.out]; exact hlt
   have hskz : (k : Int) < (N : Int) := by omega
   have kw : IntKind.i64.wrap ((k : Int) + 1) = (k : Int) + 1 := IntWalk.i64_in _ (by omega)
   obtain ⟨r, hr⟩ : ∃ r, rows[k]'hkr = r := ⟨_, rfl⟩
   have hrc : wr.cell? ⟨w.heap.size, k, none⟩ = some (.string r) := by rw [← hr]; exact HB.out.at_ k hkr
   have hrs : r.size ≤ 100000 := by rw [← hr]; exact HSZ.out _ (List.getElem_mem hkr)
   have hdrop : (rows.map (·.data.toList)).drop k = r.data.toList :: (rows.map (·.data.toList)).drop (k + 1) := by
    rw [List.drop_eq_getElem_cons (by rw [List.length_map]; exact hkr), List.getElem_map, hr]
   rw [hdrop] at HW1
   have HWr := hid (HW.out.keep HB.out.1)
   clear hdrop hr
   cases ho : oneL r.data.toList with
   | none =>
    have HE : Hid (([], k + 1, 3) = R) := hid (by rw [← HW1.out, walkL_bad ho])
    have HP := hid (fun w0 h0 => parse_err r ((k : Int) + 1) w0 h0 hrs ho)
    have HO := hid hown
    clear hown ho HW1
    go_wp2_with fail
    refine (HP.out _ HWr.out).mono ?_
    rintro e w2 ⟨rfl, hb2⟩
    have h2 := hid (HB.out.go hb2)
    clear hb2
    go_wp2
    go_ret3
    have h := HE.out.trans HRR.out
    cases h
    exact ⟨_, rfl, World.ownsRow_nil _ _ _ _, h2.out.1.alloc h2.out.1.size _⟩
   | some p =>
    obtain ⟨i, t0⟩ := p
    obtain ⟨t, rfl⟩ : ∃ t : ByteArray, t0 = t.data.toList := ⟨⟨t0.toArray⟩, by simp⟩
    have HP := hid (fun w0 h0 => parse_ok r ((k : Int) + 1) w0 h0 hrs i t ho)
    by_cases ht : t.data.toList = []
    ·have HN2 : Hid (walkL (k + 1) acc ((rows.map (·.data.toList)).drop (k + 1)) = R) := hid (by rw [← HW1.out, walkL_next ho, if_pos ht])
     obtain rfl := bytes_of (l := #[]) ht
     have HO := hid hown
     clear hown ho HW1 ht
     go_wp2_with fail
     refine (HP.out _ HWr.out).mono ?_
     rintro e w2 ⟨rfl, hb2⟩
     have h2 := hid (HB.out.go hb2)
     have h3 := hid (owns_below HO.out hb2)
     clear hb2
     go_wp2
     go_roundw
     case measure => simp [intOf]; omega
     case rel => exact ⟨k + 1, acc, by omega, by omega, by go_num, h3.out.alloc _, h2.out.go ((Below.refl _ _).alloc (Nat.le_refl _) _), HN2⟩
    ·have HN2 : Hid (walkL (k + 1) (acc ++ [⟨k + 1, i, t.data.toList⟩]) ((rows.map (·.data.toList)).drop (k + 1)) = R) := hid (by rw [← HW1.out, walkL_next ho, if_neg ht])
     have b0 : t.toList.isEmpty = false := by rw [ByteArray.toList_eq, List.isEmpty_eq_false_iff]; exact ht
     have b0' : ¬ t.toList = [] := by rw [ByteArray.toList_eq]; exact ht
     have HO := hid hown
     obtain ⟨YS, hYS⟩ : ∃ YS, YS = cellsN acc := ⟨_, rfl⟩
     obtain ⟨al, hal⟩ : ∃ al, acc.length = al := ⟨_, rfl⟩
     rw [← hYS, hal] at HO
     have HYS := hid hYS
     have hal2 : al ≤ N := by omega
     have HAL := hid hal
     have HAK : Hid (al ≤ k) := hid (by omega)
     clear hown ho HW1 ht hYS hal hak
     go_wp2_with fail
     refine (HP.out _ HWr.out).mono ?_
     rintro e w2 ⟨rfl, hb2⟩
     have h2 := hid (HB.out.go hb2)
     have h3 := owns_below HO.out hb2
     clear hb2
     go_wp2_with (at_builtin; refine wpList_append_own _ rfl _ _ 54 rfl (w.heap.size + 1) 62 i0 _ 3 32 Tryz.underlying54 hi hz0 hz1 hz2 rfl (by decide) _ _ _ rfl ((h3.alloc _).alloc _) ⟨w2.heap.size + 1, 0, none⟩ 1 1 [.int .i64 ((k : Int) + 1), .int .i64 (i : Int), .string t] rfl rfl ?c1 ?c2 ?c3 ?c4 ?c5 ?_)
     case c1 =>
      have := cells_new (w2.alloc (.cells #[.int .i64 ((k : Int) + 1), .int .i64 (i : Int), .string t] 62)) #[.int .i64 ((k : Int) + 1), .int .i64 (i : Int), .string t] 62
      simpa using this
     case c2 => exact three_one _ _ _
     case c3 => unfold maxLen; omega
     case c4 => omega
     case c5 => have := h2.out.2.1; simp; omega
     ·intro v' w3 hown' hgrow hnil
      have HW2 := hid hown'
      have HG2 := hid hgrow
      have HOy := hid h3
      clear hown' hgrow h3 hnil
      go_wp2
      go_roundw
      case measure => simp [intOf]; omega
      case rel =>
       have hlow : ∀ q, u5.ownBlock = some q → w.heap.size + 1 ≤ q := fun q hq => (HOy.out.lt q hq).1
       refine ⟨k + 1, acc ++ [⟨k + 1, i, t.data.toList⟩], by omega, by rw [List.length_append, HAL.out]; show al + 1 ≤ _; have := HAK.out; omega, by go_num, ?_, ?_, HN2⟩
       ·rw [List.length_append, HAL.out, cellsN_snoc, ← HYS.out]; exact HW2.out
       ·exact ((h2.out.go ((Below.refl _ _).alloc (Nat.le_refl _) _)).go ((Below.refl _ _).alloc (Nat.le_refl _) _)).grown HG2.out hlow
  ·obtain rfl : k = N := by omega
   have HE : Hid ((acc, 0, 0) = R) := hid (by rw [← HW1.out, List.drop_of_length_le (by rw [List.length_map, HN.out]; exact Nat.le_refl _)]; rfl)
   have HO := hid hown
   clear hown
   go_wp2
   go_ret3
   have h := HE.out.trans HRR.out
   cases h
   exact ⟨_, rfl, owns_lower HO.out (Nat.le_succ _), HB.out.1⟩
end
end Go.Proofs.YtmdgpejedbkkdaaGreatDoor
