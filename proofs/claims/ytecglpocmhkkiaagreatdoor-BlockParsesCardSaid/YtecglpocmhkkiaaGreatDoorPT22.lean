/- NdRow, RefBlo3 -/
import Derived.Deep.CutRange
import Derived.Deep.LoopGhost
import Derived.Deep.RegionHeld3
import Derived.Deep.RegionLaw
import Derived.Laws.AppendOwnNone
import Derived.Lib.BufferMore
import Derived.Lib.OwnBridge
import Derived.Lib.SliceRun
import Derived.Maps.AppendAt
import Derived.Test.YtecglpocmhkkiaaGreatDoorPT12
import Derived.Test.YtecglpocmhkkiaaGreatDoorPT14
import Derived.Test.YtecglpocmhkkiaaGreatDoorPT17
import Derived.Test.YtecglpocmhkkiaaGreatDoorPT2
import Derived.Test.YtecglpocmhkkiaaGreatDoorPT20
import Derived.Test.YtecglpocmhkkiaaGreatDoorPT21
set_option linter.unusedVariables false
set_option linter.unusedSimpArgs false
set_option maxRecDepth 100000
set_option maxHeartbeats 16000000
open Go.Lib (hid)
namespace Go.Proofs.YtecglpocmhkkiaaGreatDoor
section
open Go.RowKit Go.Sort
open Nw N8 Go.ChangeShapes Go.WideShapes
structure Q4 where
 a : Value
 b : Value
 c : Value
 d : Value
def flat4 : List Q4 → List Value
 | [] => []
 | q :: l => q.a :: q.b :: q.c :: q.d :: flat4 l
theorem flat4_len : ∀ (l : List Q4), (flat4 l).length = l.length * 4
 | [] => rfl
 | q :: l => by
  rw [flat4]
  simp only [List.length_cons, flat4_len l]; omega
theorem flat4_app : ∀ (l m : List Q4), flat4 (l ++ m) = flat4 l ++ flat4 m
 | [], m => rfl
 | q :: l, m => by rw [List.cons_append, flat4, flat4, flat4_app l m]; rfl
theorem flat4_get : ∀ (l : List Q4) (j : Nat) (h : j < l.length), (flat4 l)[j * 4]? = some (l[j]'h).a ∧ (flat4 l)[j * 4 + 1]? = some (l[j]'h).b ∧ (flat4 l)[j * 4 + 2]? = some (l[j]'h).c ∧ (flat4 l)[j * 4 + 3]? = some (l[j]'h).d
 | q :: l, 0, _ => ⟨rfl, rfl, rfl, rfl⟩
 | q :: l, j + 1, h => by
  have := flat4_get l j (Nat.lt_of_succ_lt_succ h)
  rw [flat4, show (j + 1) * 4 = j * 4 + 4 by omega]
  exact this
theorem flat4_inv : ∀ (l : List Q4) (i : Nat) (u : Value), (flat4 l)[i]? = some u → ∃ (j : Nat) (h : j < l.length), (i = j * 4 ∧ u = (l[j]'h).a) ∨ (i = j * 4 + 1 ∧ u = (l[j]'h).b) ∨ (i = j * 4 + 2 ∧ u = (l[j]'h).c) ∨ (i = j * 4 + 3 ∧ u = (l[j]'h).d)
 | [], i, u, h => by cases h
 | p :: l, 0, u, h => ⟨0, Nat.succ_pos _, .inl ⟨rfl, by injection h with h; exact h.symm⟩⟩
 | p :: l, 1, u, h => ⟨0, Nat.succ_pos _, .inr (.inl ⟨rfl, by injection h with h; exact h.symm⟩)⟩
 | p :: l, 2, u, h => ⟨0, Nat.succ_pos _, .inr (.inr (.inl ⟨rfl, by injection h with h; exact h.symm⟩))⟩
 | p :: l, 3, u, h => ⟨0, Nat.succ_pos _, .inr (.inr (.inr ⟨rfl, by injection h with h; exact h.symm⟩))⟩
 | p :: l, i + 4, u, h => by
  obtain ⟨j, hj, hc⟩ := flat4_inv l i u h
  refine ⟨j + 1, Nat.succ_lt_succ hj, ?_⟩
  rcases hc with ⟨rfl, e⟩ | ⟨rfl, e⟩ | ⟨rfl, e⟩ | ⟨rfl, e⟩
  ·exact .inl ⟨by omega, e⟩
  ·exact .inr (.inl ⟨by omega, e⟩)
  ·exact .inr (.inr (.inl ⟨by omega, e⟩))
  ·exact .inr (.inr (.inr ⟨by omega, e⟩))
def NdQ (S : Nat → Prop) (w : World) (d : Nd) (q : Q4) : Prop := NdC S w d q.a q.b q.c q.d
theorem NdC.cellsOk {S : Nat → Prop} {w : World} {d : Nd} {c0 c1 c2 c3 : Value} (h : NdC S w d c0 c1 c2 c3) :
  ∃ (k : Int) (s : ByteArray) (a : Option Addr) (n c : Nat) (A : Option Addr) (m q : Nat), c0 = .int .i64 k ∧ c1 = .string s ∧ c2 = .slice a n c ∧ c3 = .slice A m q := by
 cases d with
 | mk k t ks ds =>
  rw [NdC] at h
  obtain ⟨h0, h1, ⟨a, c, h4, _⟩, A, cap, h3, _⟩ := h
  exact ⟨k, _, a, _, c, A, _, cap, h0, h1, h4, h3⟩
theorem NdQ.one {S : Nat → Prop} {w : World} {d : Nd} {q : Q4} (h : NdQ S w d q) : q.a.oneCell' = true ∧ q.b.oneCell' = true ∧ q.c.oneCell' = true ∧ q.d.oneCell' = true := by
 obtain ⟨k, s, a, n, c, A, m, r, h0, h1, h2, h3⟩ := NdC.cellsOk h
 rw [h0, h1, h2, h3]
 exact ⟨rfl, rfl, rfl, rfl⟩
theorem flat4_one {S : Nat → Prop} {w : World} {ds : List Nd} {qs : List Q4} (hl : qs.length = ds.length) (h : ∀ (j : Nat) (h : j < qs.length) (g : j < ds.length), NdQ S w (ds[j]'g) (qs[j]'h)) : ∀ u ∈ flat4 qs, u.oneCell' = true := by
 intro u hu
 obtain ⟨i, hi, e⟩ := List.mem_iff_getElem.1 hu
 obtain ⟨j, hj, hc⟩ := flat4_inv qs i u (by rw [List.getElem?_eq_getElem hi, e])
 obtain ⟨o0, o1, o2, o3⟩ := (h j hj (by omega)).one
 rcases hc with ⟨-, e⟩ | ⟨-, e⟩ | ⟨-, e⟩ | ⟨-, e⟩ <;> rw [e] <;> assumption
def KdS (S : Nat → Prop) (w : World) (v : Value) (ds : List Nd) : Prop :=
 ∃ (A : Option Addr) (cap : Nat), v = .slice A ds.length cap ∧ ds.length ≤ cap ∧ cap ≤ maxLen ∧ (A = none → cap = 0) ∧ NdK S w ds A 0
def KO (S : Nat → Prop) (base : Nat) (w : World) (v : Value) (qs : List Q4) (ds : List Nd) : Prop :=
 w.ownsRow base 26 4 v ds.length (flat4 qs) ∧ qs.length = ds.length ∧ ∀ (j : Nat) (h : j < qs.length) (g : j < ds.length), NdQ S w (ds[j]'g) (qs[j]'h)
theorem owns_keep {w w' : World} {base n size : Nat} {e : TypeId} {v : Value} {xs : List Value} (h : w.ownsRow base e size v n xs) (hr : ∀ g, v.ownBlock = some g → w'.heap[g]? = w.heap[g]?) : w'.ownsRow base e size v n xs := by
 refine ⟨h.1, ?_⟩
 rcases h.2 with h0 | ⟨g, cap, cur, h1, h2, h3, h4⟩
 ·exact .inl h0
 ·exact .inr ⟨g, cap, cur, h1, h2, (hr g (by rw [h1]; rfl)).trans h3, h4⟩
theorem owns_low {w : World} {base base' n size : Nat} {e : TypeId} {v : Value} {xs : List Value} (h : w.ownsRow base e size v n xs) (hb : base' ≤ base) : w.ownsRow base' e size v n xs := by
 refine ⟨h.1, ?_⟩
 rcases h.2 with h0 | ⟨g, cap, cur, h0, hg, r⟩
 ·exact .inl h0
 ·exact .inr ⟨g, cap, cur, h0, Nat.le_trans hb hg, r⟩
theorem owns_apart {w : World} {base base' n n' size size' : Nat} {e e' : TypeId} {v v' : Value} {xs xs' : List Value} (h : w.ownsRow base e size v n xs) (h' : w.ownsRow base' e' size' v' n' xs') (hne : e ≠ e') {g : Nat} (hg : v.ownBlock = some g) : v'.ownBlock ≠ some g := by
 intro hg'
 rcases h.2 with ⟨h0, _⟩ | ⟨g1, cap, cur, h1, h2, h3, h4⟩
 ·rw [h0] at hg; cases hg
 ·rcases h'.2 with ⟨h0, _⟩ | ⟨g2, cap', cur', k1, k2, k3, k4⟩
  ·rw [h0] at hg'; cases hg'
  ·rw [h1] at hg
   rw [k1] at hg'
   have e1 : g1 = g := by injection hg
   have e2 : g2 = g := by injection hg'
   subst e1; subst e2
   rw [h3] at k3
   injection k3 with k3
   injection k3 with _ k3 _
   exact hne k3
theorem KO.keep {S T : Nat → Prop} {base : Nat} {w w' : World} {v : Value} {qs : List Q4} {ds : List Nd} (h : KO S base w v qs ds) (hk : ∀ b, S b → T b ∧ w'.heap[b]? = w.heap[b]?) (hr : ∀ g, v.ownBlock = some g → w'.heap[g]? = w.heap[g]?) : KO T base w' v qs ds :=
 ⟨owns_keep h.1 hr, h.2.1, fun j hj g => NdC.keep hk _ (h.2.2 j hj g)⟩
theorem KO.below {S : Nat → Prop} {base : Nat} {w w' : World} {v : Value} {qs : List Q4} {ds : List Nd} (h : KO S base w v qs ds) (hS : ∀ b, S b → b < w.heap.size) (hb : Below w.heap.size w w') : KO S base w' v qs ds :=
 h.keep (fun b hs => ⟨hs, hb.block b (hS b hs)⟩) fun g hg => hb.block g (h.1.lt g hg).2
theorem infoN0 : (Tryz.prog.info? 26).map (fun i => (i.zero, i.size, i.bytes)) = some (some (.agg #[.int .i64 0, .string ⟨#[]⟩, .slice none 0 0, .slice none 0 0]), 4, 72) := by kernel_rfl
theorem infoN : ∃ i, Tryz.prog.info? 26 = some i ∧ i.zero = some (.agg #[.int .i64 0, .string ⟨#[]⟩, .slice none 0 0, .slice none 0 0]) ∧ i.size = 4 ∧ i.bytes = 72 := by
 have h := infoN0
 cases hi : Tryz.prog.info? 26 with
 | none => rw [hi] at h; cases h
 | some i =>
  rw [hi] at h
  simp only [Option.map_some, Option.some.injEq, Prod.mk.injEq] at h
  exact ⟨i, rfl, h.1, h.2.1, h.2.2⟩
theorem cells_alloc {w : World} {o : Obj} {p : Addr} {v : Value} (h : w.cell? p = some v) : (w.alloc o).cell? p = some v :=
 (World.cell?_of_block (Below.heap_alloc w o p.block (cell_lt h))).trans h
theorem one_str (x : ByteArray) : ∀ u ∈ [Value.string x], u.oneCell' = true := by
 intro u hu
 rw [List.mem_singleton] at hu
 subst hu; rfl
theorem four_nd (k : Int) (s : ByteArray) (a : Option Addr) (n c : Nat) (A : Option Addr) (m q : Nat) : ∀ u ∈ [Value.int .i64 k, .string s, .slice a n c, .slice A m q], u.oneCell' = true := by
 intro u hu
 simp only [List.mem_cons, List.not_mem_nil, or_false] at hu
 rcases hu with rfl | rfl | rfl | rfl <;> rfl
theorem cell_grown {w w' : World} {row : Option Nat} {p : Addr} {v : Value} (h : w.cell? p = some v) (hg : w.grownBy w' row) (hne : row ≠ some p.block) : w'.cell? p = some v := hg.cell h fun e => hne e.symm
theorem news_blk {w : World} {B : Nat} (cs : Array Value) {t : TypeId} (hb : w.heap[B]? = some (.cells cs t (0, 0))) : ∀ j u, cs.toList[j]? = some u → w.cell? ((⟨B, 0, none⟩ : Addr).add j) = some u := by
 intro j u h
 rw [add_plain, Nat.zero_add, cell_of_row _ _ j cs t (0, 0) hb]
 simpa using h
theorem alloc_at (w : World) (o : Obj) : (w.alloc o).heap[w.heap.size]? = some o := heap_alloc_new w o
theorem alloc_at1 (w : World) (o p : Obj) : ((w.alloc p).alloc o).heap[w.heap.size + 1]? = some o := by
 have := heap_alloc_new (w.alloc p) o
 rwa [show (w.alloc p).heap.size = w.heap.size + 1 by simp] at this
theorem alloc_at0 (w : World) (o p : Obj) : ((w.alloc o).alloc p).heap[w.heap.size]? = some o := (Below.heap_alloc (w.alloc o) p w.heap.size (by simp)).trans (heap_alloc_new w o)
theorem set_oth (w : World) (p : Addr) (v : Value) (b : Nat) (hb : b ≠ p.block) : (w.setCell p v).heap[b]? = w.heap[b]? := Below.heap_setCell _ _ _ _ hb
theorem cell_set {w : World} {p r : Addr} {u x : Value} (h : w.cell? p = some u) (hp : p.block ≠ r.block) : (w.setCell r x).cell? p = some u := (World.cell?_of_block (set_oth _ _ _ _ hp)).trans h
theorem frozen_grown {w w' : World} {row : Option Nat} {p : Addr} (h : w.frozen? p = false) (hg : w.grownBy w' row) (hlt : p.block < w.heap.size) (hne : row ≠ some p.block) : w'.frozen? p = false :=
 (World.frozen?_of_block (hg.block p.block hlt fun e => hne e.symm)).trans h
theorem own_shape {w : World} {base n size : Nat} {e : TypeId} {v : Value} {xs : List Value} (h : w.ownsRow base e size v n xs) : ∃ a c, v = .slice a n c := by
 rcases h.2 with ⟨h0, h1⟩ | ⟨g, cap, cur, h0, _⟩
 ·subst h1; exact ⟨_, _, h0⟩
 ·exact ⟨_, _, h0⟩
theorem frozen_alloc {w : World} {o : Obj} {p : Addr} (h : w.frozen? p = false) (hlt : p.block < w.heap.size) : (w.alloc o).frozen? p = false :=
 (World.frozen?_of_block (Below.heap_alloc w o p.block hlt)).trans h
def New (S : Nat → Prop) (w w' : World) (b : Nat) : Prop := S b ∨ (w.heap.size ≤ b ∧ b < w'.heap.size)
theorem KO.kdS {S T : Nat → Prop} {base : Nat} {w : World} {v : Value} {qs : List Q4} {ds : List Nd} (h : KO S base w v qs ds) (hT : ∀ b, S b → T b) (hv : ∀ b, v.ownBlock = some b → T b) : KdS T w v ds := by
 rcases h.1.2 with ⟨h0, hn⟩ | ⟨g, cap, cur, h1, h2, h3, h4, h5, h6, h7⟩
 ·obtain rfl : ds = [] := List.length_eq_zero_iff.1 hn
  exact ⟨none, 0, h0, Nat.le_refl _, Nat.zero_le _, fun _ => rfl, by rw [NdK]; trivial⟩
 ·subst h1
  refine ⟨some ⟨g, 0, none⟩, cap, rfl, h4, h5, fun h => (by cases h), ndK_of ds 0 fun j hj => ?_⟩
  have hq : j < qs.length := by rw [h.2.1]; exact hj
  obtain ⟨f0, f1, f2, f3⟩ := flat4_get qs j hq
  refine ⟨g, 0, _, _, _, _, rfl, hv g rfl, ?_, ?_, ?_, ?_, NdC.keep (fun b hs => ⟨hT b hs, rfl⟩) _ (h.2.2 j hq hj)⟩
  ·rw [Nat.zero_add, Nat.zero_add]; exact (h.1.cellAt (j * 4) (by omega)).trans f0
  ·rw [Nat.zero_add, Nat.zero_add]; exact (h.1.cellAt (j * 4 + 1) (by omega)).trans f1
  ·rw [Nat.zero_add, Nat.zero_add]; exact (h.1.cellAt (j * 4 + 2) (by omega)).trans f2
  ·rw [Nat.zero_add, Nat.zero_add]; exact (h.1.cellAt (j * 4 + 3) (by omega)).trans f3
theorem KdS.kid {S : Nat → Prop} {w : World} {A : Option Addr} {n cap : Nat} {ds : List Nd} (h : KdS S w (.slice A n cap) ds) (j : Nat) (hj : j < ds.length) :
  ∃ (b o : Nat) (e0 e1 e2 e3 : Value), A = some ⟨b, o, none⟩ ∧ S b ∧ w.cell? ⟨b, o + j * 4, none⟩ = some e0 ∧ w.cell? ⟨b, o + j * 4 + 1, none⟩ = some e1 ∧
    w.cell? ⟨b, o + j * 4 + 2, none⟩ = some e2 ∧ w.cell? ⟨b, o + j * 4 + 3, none⟩ = some e3 ∧ NdC S w (ds[j]'hj) e0 e1 e2 e3 := by
 obtain ⟨A', cap', h1, -, -, -, h5⟩ := h
 have hAe : A = A' := by injection h1
 subst hAe
 have := NdK.at_ h5 j hj
 rw [Nat.zero_add] at this
 exact this
theorem rdS_of_owns {w : World} {base n : Nat} {e : TypeId} {v : Value} {l : List L8} (h : w.ownsRow base e 1 v n (l.map encStr)) (T : Nat → Prop) (hT : ∀ b, v.ownBlock = some b → T b) : RdS T w v l := by
 obtain ⟨a, cap, rfl, h1, h2, h3⟩ := rd_of_owns h
 refine ⟨a, cap, rfl, h1, h2, ?_⟩
 rcases h3 with h3 | ⟨b, o, rfl, h4, h5⟩
 ·exact .inl h3
 ·rcases h.2 with ⟨h0, _⟩ | ⟨g, cap', cur, h6, _⟩
  ·cases h0
  ·injection h6 with h6 _ _
   injection h6 with h6
   injection h6 with h6 h7 _
   subst h6; subst h7
   exact .inr ⟨b, 0, rfl, hT b rfl, h5⟩
theorem step_append_own_at {P : Program} {ops : Array Oper} {o : Oper} {a : Act} {w : World} {K : Act → World → Prop} {Q : Exit → Act → World → Prop} {E : Prop} (hg : o.guard = none) (s x : Operand) (t : TypeId)
  (ho : o.op = .call { callee := .builtin .append, args := #[s, x], argTypes := #[t, t] })
  (base : Nat) (e : TypeId) (i : TypeInfo) (z : Value) (size bytes : Nat) (ht : P.underlying t = some (.slice e)) (hi : P.info? e = some i) (hz : i.zero = some z)
  (hsize : i.size = size) (hby : i.bytes = bytes) (hzs : z.cells.size = size) (hsz : 0 < size)
  (v : Value) (n : Nat) (xs : List Value) (hs : a.eval s = v) (hown : w.ownsRow base e size v n xs)
  (ad : Addr) (m c : Nat) (news : List Value) (hx : a.eval x = .slice (some ad) m c) (hl : news.length = m * size) (hnews : ∀ j u, news[j]? = some u → w.cell? (ad.add j) = some u) (h1 : ∀ u ∈ news, u.oneCell' = true)
  (h63 : n + m ≤ maxLen) (hbytes : (n + m) * bytes ≤ 140737488355328) (hbase : base ≤ w.heap.size)
  (h : ∀ v' w', w'.ownsRow base e size v' (n + m) (xs ++ news) → w.grownBy w' v.ownBlock → (v'.ownBlock = v.ownBlock ∨ v'.ownBlock = some w.heap.size) → K (a.put o.dst v') w') :
  if Region.wanted o (yielded ops a.tmps) = true then Oper.wp P o a w K Q else E := by
 rw [if_pos (by simp [Region.wanted, hg])]
 obtain ⟨v', w', hr, h2, h3, h4, h5⟩ := run_append_own_at (P := P) w base t o.type e i z size bytes ht hi hz hsize hby hzs hsz v n xs hown ad m c news hl hnews h1 h63 hbytes hbase
 unfold Oper.wp execOp
 simp only [ho, resolve, invoke, builtin, Sem.run_bind, Sem.run_pure, Result.andThen_ok, List.map_toArray, List.map_cons, List.map_nil, hs, hx, hr]
 exact h v' w' h2 h3 h5
def OwnZ (S : Nat → Prop) (OUT : Nat) (W : World) (u v : Value) (b : Nat) : Prop := S b ∨ (OUT + 1 ≤ b ∧ b < W.heap.size ∧ u.ownBlock ≠ some b ∧ v.ownBlock ≠ some b)
def RZ (S : Nat → Prop) (OUT : Nat) (G : World → Prop) (W : World) (k : Int) (T : ByteArray) (s7 : Value) (l7 : List L8) (s8 : Value) (M : List Nd) : Prop :=
 (∀ b, S b → b < OUT) ∧ G W ∧ Row4 W OUT 26 (.int .i64 k) (.string T) s7 s8 ∧ W.ownsRow (OUT + 1) 9 1 s7 l7.length (l7.map encStr) ∧ ∃ qs, KO (OwnZ S OUT W s7 s8) (OUT + 1) W s8 qs M
section
variable {S : Nat → Prop} {OUT : Nat} {G : World → Prop} {W0 W1 W2 wr : World} {k : Int} {T : ByteArray} {s7 s8 s' : Value} {l7 l' : List L8} {M : List Nd}
theorem RZ.lt (h : RZ S OUT G W0 k T s7 l7 s8 M) : OUT < W0.heap.size := h.2.2.1.lt
theorem RZ.go (hG : ∀ W W', G W → Below OUT W W' → G W') (h : RZ S OUT G W0 k T s7 l7 s8 M) (hb : Below W0.heap.size W0 W1) : RZ S OUT G W1 k T s7 l7 s8 M := by
 have hlt := h.lt
 obtain ⟨h0, h1, h2, h3, qs, h4⟩ := h
 refine ⟨h0, hG _ _ h1 (hb.mono (by omega)), h2.below hb hlt, owns_below h3 hb, qs, h4.keep (fun b hx => ?_) fun b hx => hb.block b (h4.1.lt b hx).2⟩
 rcases hx with hx | ⟨a1, a2, a3, a4⟩
 ·exact ⟨.inl hx, hb.block b (by have := h0 b hx; omega)⟩
 ·exact ⟨.inr ⟨a1, Nat.lt_of_lt_of_le a2 hb.size, a3, a4⟩, hb.block b a2⟩
theorem RZ.keys (hG : ∀ W W', G W → Below OUT W W' → G W') (h : RZ S OUT G W0 k T s7 l7 s8 M) (hb : Below W0.heap.size W0 W1) (ho : W2.ownsRow (OUT + 1) 9 1 s' l'.length (l'.map encStr)) (hg : W1.grownBy W2 s7.ownBlock) (hk : s'.ownBlock = s7.ownBlock ∨ s'.ownBlock = some W1.heap.size) :
  RZ S OUT G (W2.setCell ⟨OUT, 2, none⟩ s') k T s' l' s8 M := by
 have hlt := h.lt
 obtain ⟨h0, h1, h2, h3, qs, h4⟩ := h
 have hs := hb.size
 have h31 := owns_below h3 hb
 have h41 := owns_below h4.1 hb
 have hb2 : Below (OUT + 1) W0 W2 := (hb.mono (by omega)).grown hg (by omega) fun k hk => (h31.lt k hk).1
 have hb25 : Below OUT W0 W2 := hb2.mono (by omega)
 have hb3 : Below OUT W0 (W2.setCell ⟨OUT, 2, none⟩ s') := hb25.setCell (p := ⟨OUT, 2, none⟩) (Nat.le_refl _) s'
 refine ⟨h0, hG _ _ h1 hb3, ?_, owns_keep ho fun g hg' => set_oth _ _ _ _ ?_, qs, h4.keep (fun b hx => ?_) fun g hg' => ?_⟩
 ·have h22 : Row4 W2 OUT 26 (.int .i64 k) (.string T) s7 s8 := (hb2.block OUT (by omega)).trans h2
  exact Lib.heap_setCell_same (i := 2) h22 s'
 ·have := (ho.lt g hg').1
  show g ≠ OUT
  omega
 ·rcases hx with hx | ⟨a1, a2, a3, a4⟩
  ·exact ⟨.inl hx, hb3.block b (h0 b hx)⟩
  ·refine ⟨.inr ⟨a1, Nat.lt_of_lt_of_le a2 hb3.size, fun e => ?_, a4⟩, ?_⟩
   ·rcases hk with hk | hk
    ·exact a3 (hk.symm.trans e)
    ·rw [hk] at e; injection e with e; omega
   have e1 : (W2.setCell ⟨OUT, 2, none⟩ s').heap[b]? = W2.heap[b]? := set_oth _ _ _ _ (by show b ≠ OUT; omega)
   rw [e1]
   refine (hg.block b (by omega) fun e => a3 e.symm).trans (hb.block b a2)
 ·have hg1 := h41.lt g hg'
  have e1 : (W2.setCell ⟨OUT, 2, none⟩ s').heap[g]? = W2.heap[g]? := set_oth _ _ _ _ (by show g ≠ OUT; omega)
  rw [e1]
  exact (hg.block g hg1.2 fun e => owns_apart h41 h31 (by decide) hg' e.symm).trans (hb.block g (h4.1.lt g hg').2)
theorem RZ.kids (hG : ∀ W W', G W → Below OUT W W' → G W') (h : RZ S OUT G W0 k T s7 l7 s8 M) (hb : Below W0.heap.size W0 W1) {n' : Nat} {xs : List Value} {q : Q4} {e : Nd} (hn : n' = M.length + 1) (qs : List Q4) (hko : KO (OwnZ S OUT W0 s7 s8) (OUT + 1) W0 s8 qs M) (hxs : xs = flat4 qs ++ [q.a, q.b, q.c, q.d]) (ho : W2.ownsRow (OUT + 1) 26 4 s' n' xs) (hg : W1.grownBy W2 s8.ownBlock) (hk : s'.ownBlock = s8.ownBlock ∨ s'.ownBlock = some W1.heap.size)
  (hwr : ∀ b, s7.ownBlock = some b ∨ s8.ownBlock = some b → b < wr.heap.size) (hwo : OUT < wr.heap.size) (he : NdC (New S wr W0) W0 e q.a q.b q.c q.d) :
  RZ S OUT G (W2.setCell ⟨OUT, 3, none⟩ s') k T s7 l7 s' (M ++ [e]) := by
 have hlt := h.lt
 obtain ⟨h0, h1, h2, h3, -⟩ := h
 have h4 := hko
 have hs := hb.size
 have h31 := owns_below h3 hb
 have h41 := owns_below h4.1 hb
 have hb2 : Below (OUT + 1) W0 W2 := (hb.mono (by omega)).grown hg (by omega) fun k hk => (h41.lt k hk).1
 have hb25 : Below OUT W0 W2 := hb2.mono (by omega)
 have hb3 : Below OUT W0 (W2.setCell ⟨OUT, 3, none⟩ s') := hb25.setCell (p := ⟨OUT, 3, none⟩) (Nat.le_refl _) s'
 subst hxs; subst hn
 have hkeep : ∀ b, OwnZ S OUT W0 s7 s8 b → OwnZ S OUT (W2.setCell ⟨OUT, 3, none⟩ s') s7 s' b ∧ (W2.setCell ⟨OUT, 3, none⟩ s').heap[b]? = W0.heap[b]? := by
  intro b hx
  rcases hx with hx | ⟨a1, a2, a3, a4⟩
  ·exact ⟨.inl hx, hb3.block b (h0 b hx)⟩
  ·refine ⟨.inr ⟨a1, Nat.lt_of_lt_of_le a2 hb3.size, a3, fun e => ?_⟩, ?_⟩
   ·rcases hk with hk | hk
    ·exact a4 (hk.symm.trans e)
    ·rw [hk] at e; injection e with e; omega
   have e1 : (W2.setCell ⟨OUT, 3, none⟩ s').heap[b]? = W2.heap[b]? := set_oth _ _ _ _ (by show b ≠ OUT; omega)
   rw [e1]
   exact (hg.block b (by omega) fun e => a4 e.symm).trans (hb.block b a2)
 refine ⟨h0, hG _ _ h1 hb3, ?_, owns_keep h31 fun g hg' => ?_, qs ++ [q], ?_, by rw [List.length_append, List.length_append, h4.2.1]; rfl, fun j hj gj => ?_⟩
 ·have h22 : Row4 W2 OUT 26 (.int .i64 k) (.string T) s7 s8 := (hb2.block OUT (by omega)).trans h2
  exact Lib.heap_setCell_same (i := 3) h22 s'
 ·have hg1 := h31.lt g hg'
  have e1 : (W2.setCell ⟨OUT, 3, none⟩ s').heap[g]? = W2.heap[g]? := set_oth _ _ _ _ (by show g ≠ OUT; omega)
  rw [e1]
  exact hg.block g hg1.2 fun e => owns_apart h31 h41 (by decide) hg' e.symm
 ·have e2 : flat4 (qs ++ [q]) = flat4 qs ++ [q.a, q.b, q.c, q.d] := by rw [flat4_app]; rfl
  rw [e2, show (M ++ [e]).length = M.length + 1 by simp]
  exact owns_keep ho fun g hg' => set_oth _ _ _ _ (by have := (ho.lt g hg').1; show g ≠ OUT; omega)
 ·have hl := h4.2.1
  by_cases hjl : j < qs.length
  ·rw [List.getElem_append_left hjl, List.getElem_append_left (by omega)]
   exact NdC.keep hkeep _ (h4.2.2 j hjl (by omega))
  ·rw [List.getElem_append_right (by omega), List.getElem_append_right (by omega)]
   have e1 : j - qs.length = 0 := by simp at hj; omega
   have e2 : j - M.length = 0 := by omega
   simp only [e1, e2, List.getElem_cons_zero]
   refine NdC.keep (fun b hb' => hkeep b ?_) _ he
   rcases hb' with hb' | ⟨b1, b2⟩
   ·exact .inl hb'
   ·exact .inr ⟨by omega, b2, fun e => by have := hwr b (.inl e); omega, fun e => by have := hwr b (.inr e); omega⟩
theorem RZ.kids2 {B : Nat → Prop} (hG : ∀ W W', G W → Below OUT W W' → G W') (h : RZ S OUT G W0 k T s7 l7 s8 M) (hb : Below W0.heap.size W0 W1) {n' : Nat} {xs : List Value} {q : Q4} {e : Nd} (hn : n' = M.length + 1) (qs : List Q4) (hko : KO (OwnZ S OUT W0 s7 s8) (OUT + 1) W0 s8 qs M) (hxs : xs = flat4 qs ++ [q.a, q.b, q.c, q.d]) (ho : W2.ownsRow (OUT + 1) 26 4 s' n' xs) (hg : W1.grownBy W2 s8.ownBlock) (hk : s'.ownBlock = s8.ownBlock ∨ s'.ownBlock = some W1.heap.size)
  (hB : ∀ b, B b → OUT + 1 ≤ b ∧ b < W0.heap.size ∧ s7.ownBlock ≠ some b ∧ s8.ownBlock ≠ some b) (he : NdC B W0 e q.a q.b q.c q.d) :
  RZ S OUT G (W2.setCell ⟨OUT, 3, none⟩ s') k T s7 l7 s' (M ++ [e]) := by
 have hlt := h.lt
 obtain ⟨h0, h1, h2, h3, -⟩ := h
 have h4 := hko
 have hs := hb.size
 have h31 := owns_below h3 hb
 have h41 := owns_below h4.1 hb
 have hb2 : Below (OUT + 1) W0 W2 := (hb.mono (by omega)).grown hg (by omega) fun k hk => (h41.lt k hk).1
 have hb25 : Below OUT W0 W2 := hb2.mono (by omega)
 have hb3 : Below OUT W0 (W2.setCell ⟨OUT, 3, none⟩ s') := hb25.setCell (p := ⟨OUT, 3, none⟩) (Nat.le_refl _) s'
 subst hxs; subst hn
 have hkeep : ∀ b, OwnZ S OUT W0 s7 s8 b → OwnZ S OUT (W2.setCell ⟨OUT, 3, none⟩ s') s7 s' b ∧ (W2.setCell ⟨OUT, 3, none⟩ s').heap[b]? = W0.heap[b]? := by
  intro b hx
  rcases hx with hx | ⟨a1, a2, a3, a4⟩
  ·exact ⟨.inl hx, hb3.block b (h0 b hx)⟩
  ·refine ⟨.inr ⟨a1, Nat.lt_of_lt_of_le a2 hb3.size, a3, fun e => ?_⟩, ?_⟩
   ·rcases hk with hk | hk
    ·exact a4 (hk.symm.trans e)
    ·rw [hk] at e; injection e with e; omega
   have e1 : (W2.setCell ⟨OUT, 3, none⟩ s').heap[b]? = W2.heap[b]? := set_oth _ _ _ _ (by show b ≠ OUT; omega)
   rw [e1]
   exact (hg.block b (by omega) fun e => a4 e.symm).trans (hb.block b a2)
 refine ⟨h0, hG _ _ h1 hb3, ?_, owns_keep h31 fun g hg' => ?_, qs ++ [q], ?_, by rw [List.length_append, List.length_append, h4.2.1]; rfl, fun j hj gj => ?_⟩
 ·have h22 : Row4 W2 OUT 26 (.int .i64 k) (.string T) s7 s8 := (hb2.block OUT (by omega)).trans h2
  exact Lib.heap_setCell_same (i := 3) h22 s'
 ·have hg1 := h31.lt g hg'
  have e1 : (W2.setCell ⟨OUT, 3, none⟩ s').heap[g]? = W2.heap[g]? := set_oth _ _ _ _ (by show g ≠ OUT; omega)
  rw [e1]
  exact hg.block g hg1.2 fun e => owns_apart h31 h41 (by decide) hg' e.symm
 ·have e2 : flat4 (qs ++ [q]) = flat4 qs ++ [q.a, q.b, q.c, q.d] := by rw [flat4_app]; rfl
  rw [e2, show (M ++ [e]).length = M.length + 1 by simp]
  exact owns_keep ho fun g hg' => set_oth _ _ _ _ (by have := (ho.lt g hg').1; show g ≠ OUT; omega)
 ·have hl := h4.2.1
  by_cases hjl : j < qs.length
  ·rw [List.getElem_append_left hjl, List.getElem_append_left (by omega)]
   exact NdC.keep hkeep _ (h4.2.2 j hjl (by omega))
  ·rw [List.getElem_append_right (by omega), List.getElem_append_right (by omega)]
   have e1 : j - qs.length = 0 := by simp at hj; omega
   have e2 : j - M.length = 0 := by omega
   simp only [e1, e2, List.getElem_cons_zero]
   refine NdC.keep (fun b hb' => hkeep b ?_) _ he
   exact .inr (hB b hb')
end
end
section
open Go.RowKit Go.Sort
open Nw N8 Q6 F9 B10
def Row7 (w : World) (g : Nat) (t : TypeId) (a b c d e f h : Value) : Prop := w.heap[g]? = some (.cells #[a, b, c, d, e, f, h] t (0, 0))
section
variable {w w' : World} {g B : Nat} {t : TypeId} {a b c d e f h : Value}
theorem Row7.make (w : World) (t : TypeId) (a b c d e f h : Value) : Row7 (w.alloc (.cells #[a, b, c, d, e, f, h] t)) w.heap.size t a b c d e f h := by
 show (w.heap.push _)[w.heap.size]? = _
 simp
theorem Row7.below (r : Row7 w g t a b c d e f h) (hb : Below B w w') (hg : g < B) : Row7 w' g t a b c d e f h := (hb.block g hg).trans r
theorem Row7.lt (r : Row7 w g t a b c d e f h) : g < w.heap.size := by
 rcases Nat.lt_or_ge g w.heap.size with hl | hl
 ·exact hl
 ·unfold Row7 at r; rw [Array.getElem?_eq_none hl] at r; cases r
theorem Row7.cells (r : Row7 w g t a b c d e f h) : w.cell? ⟨g, 0, none⟩ = some a ∧ w.cell? ⟨g, 1, none⟩ = some b ∧ w.cell? ⟨g, 2, none⟩ = some c ∧ w.cell? ⟨g, 3, none⟩ = some d ∧ w.cell? ⟨g, 4, none⟩ = some e ∧ w.cell? ⟨g, 5, none⟩ = some f ∧ w.cell? ⟨g, 6, none⟩ = some h :=
 ⟨cell_of_row w g 0 _ t (0, 0) r, cell_of_row w g 1 _ t (0, 0) r, cell_of_row w g 2 _ t (0, 0) r, cell_of_row w g 3 _ t (0, 0) r, cell_of_row w g 4 _ t (0, 0) r, cell_of_row w g 5 _ t (0, 0) r, cell_of_row w g 6 _ t (0, 0) r⟩
theorem Row7.frozen (r : Row7 w g t a b c d e f h) : w.frozen? ⟨g, 0, none⟩ = false ∧ w.frozen? ⟨g, 1, none⟩ = false ∧ w.frozen? ⟨g, 2, none⟩ = false ∧ w.frozen? ⟨g, 3, none⟩ = false ∧ w.frozen? ⟨g, 4, none⟩ = false ∧ w.frozen? ⟨g, 5, none⟩ = false ∧ w.frozen? ⟨g, 6, none⟩ = false := by
 unfold Row7 at r
 simp [World.frozen?, r]
end
def p7 (w : World) (g : Nat) (a b c d e f h : Value) : World := (((p4 w g a b c d).setCell ⟨g, 4, none⟩ e).setCell ⟨g, 5, none⟩ f).setCell ⟨g, 6, none⟩ h
theorem below_p7 {B : Nat} {w w' : World} {g : Nat} (hb : Below B w w') (hg : B ≤ g) (a b c d e f h : Value) : Below B w (p7 w' g a b c d e f h) :=
 (((below_p4 hb hg a b c d).setCell hg e).setCell hg f).setCell hg h
theorem p7_oth {w : World} {g : Nat} (b : Nat) (hb : b ≠ g) (a' b' c' d' e' f' h' : Value) : (p7 w g a' b' c' d' e' f' h').heap[b]? = w.heap[b]? := by
 have e1 := set_oth (((p4 w g a' b' c' d').setCell ⟨g, 4, none⟩ e').setCell ⟨g, 5, none⟩ f') ⟨g, 6, none⟩ h' b hb
 have e2 := set_oth ((p4 w g a' b' c' d').setCell ⟨g, 4, none⟩ e') ⟨g, 5, none⟩ f' b hb
 have e3 := set_oth (p4 w g a' b' c' d') ⟨g, 4, none⟩ e' b hb
 exact e1.trans (e2.trans (e3.trans (p4_oth b hb _ _ _ _)))
theorem p7_size (w : World) (g : Nat) (a b c d e f h : Value) : (p7 w g a b c d e f h).heap.size = w.heap.size := by unfold p7; simp [p4_size]
def FIs (S : Nat → Prop) (w : World) (k : Nat) (R : Res) (kk : Int) (t : ByteArray) (c2 c3 : Value) (nx no er : Int) : Prop :=
 match R with
 | .bad n E => no = (n : Int) ∧ er = E
 | .ok d m => er = 0 ∧ nx = ((k + m : Nat) : Int) ∧ NdC S w d (.int .i64 kk) (.string t) c2 c3
theorem FIs.keep {S T : Nat → Prop} {w w' : World} (hk : ∀ b, S b → T b ∧ w'.heap[b]? = w.heap[b]?) {k : Nat} {R : Res} {kk : Int} {t : ByteArray} {c2 c3 : Value} {nx no er : Int} (h : FIs S w k R kk t c2 c3 nx no er) : FIs T w' k R kk t c2 c3 nx no er := by
 cases R with
 | bad n E => exact h
 | ok d m => exact ⟨h.1, h.2.1, NdC.keep hk _ h.2.2⟩
def GotF (k : Nat) (R : Res) (w : World) (e : Ending) (w' : World) : Prop := ∃ (kk : Int) (t : ByteArray) (a : Option Addr) (n c : Nat) (A : Option Addr) (m q : Nat) (nx no er : Int),
 e = .returned (.agg #[.int .i64 kk, .string t, .slice a n c, .slice A m q, .int .i64 nx, .int .i64 no, .int .i64 er]) ∧ Below w.heap.size w w' ∧ FIs (fun b => w.heap.size ≤ b ∧ b < w'.heap.size) w' k R kk t (.slice a n c) (.slice A m q) nx no er
theorem fnd_ret {w W0 w1 : World} {k : Nat} {R : Res} {kk : Int} {t : ByteArray} {a : Option Addr} {nn c : Nat} {A : Option Addr} {m q : Nat} {nx no er : Int} (hsz : W0.heap.size = w.heap.size + 1) (hb0 : Below w.heap.size w W0) (hb : Below W0.heap.size W0 w1)
  (hd : FIs (fun b => W0.heap.size ≤ b ∧ b < w1.heap.size) w1 k R kk t (.slice a nn c) (.slice A m q) nx no er) :
  GotF k R w (.returned (.agg #[.int .i64 kk, .string t, .slice a nn c, .slice A m q, .int .i64 nx, .int .i64 no, .int .i64 er])) (p7 w1 w.heap.size (.int .i64 kk) (.string t) (.slice a nn c) (.slice A m q) (.int .i64 nx) (.int .i64 no) (.int .i64 er)) := by
 refine ⟨_, _, _, _, _, _, _, _, _, _, _, rfl, below_p7 (hb0.trans (hb.mono (by omega))) (Nat.le_refl _) _ _ _ _ _ _ _, ?_⟩
 exact FIs.keep (fun b hb => ⟨⟨by omega, by rw [p7_size]; exact hb.2⟩, p7_oth b (by omega) _ _ _ _ _ _ _⟩) hd
theorem Rwrong_any (no e : Int) (w : World) :
  Calls Tryz.prog 39 #[.int .i64 no, .int .i64 e] w fun r w' => r = .returned (.agg #[.int .i64 0, .string ⟨#[]⟩, .slice none 0 0, .slice none 0 0, .int .i64 0, .int .i64 no, .int .i64 e]) ∧ Below w.heap.size w w' := by
 go_enter Tryz.func39, Tryz.ntmps39
 go_wp2
 exact bodyPost_ret (v := .agg #[.int .i64 0, .string ⟨#[]⟩, .slice none 0 0, .slice none 0 0, .int .i64 0, .int .i64 no, .int .i64 e]) (by simp [results, Tryz.results39, go_sem]) rfl ⟨rfl, (Below.refl _ _).alloc (Nat.le_refl _) _⟩
theorem RDeeper_any (v : Value) (ls : List Ln) (k m : Nat) (b : Bool) (w : World) (hw : LR w v ls) (hl : ls.length ≤ 100000) (hk : k ≤ ls.length) (hb : deep m (ls.drop k) = b) :
  Calls Tryz.prog 66 #[v, .int .i64 (k : Int), .int .i64 (m : Int)] w fun e w' => e = .returned (.bool b) ∧ w = w' := by
 obtain ⟨A, cap, rfl, hcap, hcell⟩ := hw
 obtain ⟨n, hn⟩ : ∃ n, ls.length = n := ⟨_, rfl⟩
 by_cases hlt : k < ls.length
 ·obtain ⟨g, rfl, hg, c0, c1, c2⟩ := hcell k hlt
  rw [List.drop_eq_getElem_cons hlt] at hb
  obtain ⟨i, hi⟩ : ∃ i : Nat, (ls[k]'hlt).ind = i := ⟨_, rfl⟩
  have hb2 : decide (m < i) = b := by rw [← hb, ← hi]; rfl
  rw [hi] at c1
  rw [hn] at hcap hl hlt ⊢
  clear hcell hb hi c0 c2 hn
  have hkz : (k : Int) < (n : Int) := by omega
  have HB := hid hb2
  cases b with
  | true =>
   have hmi : (m : Int) < (i : Int) := by have := of_decide_eq_true hb2; omega
   clear hb2
   go_enter Tryz.func66, Tryz.ntmps66
   go_wp2
   go_ret
   exact ⟨rfl, rfl⟩
  | false =>
   have hmi : ¬ (m : Int) < (i : Int) := by have := of_decide_eq_false hb2; omega
   clear hb2
   go_enter Tryz.func66, Tryz.ntmps66
   go_wp2
   go_ret
   exact ⟨rfl, rfl⟩
 ·rw [List.drop_of_length_le (by omega)] at hb
  have HB : Hid (false = b) := hid hb
  rw [hn] at hcap hl hlt ⊢
  have hkz : ¬ (k : Int) < (n : Int) := by omega
  clear hcell hb hn
  go_enter Tryz.func66, Tryz.ntmps66
  go_wp2
  go_ret
  exact ⟨ret_bb HB.out, rfl⟩
def GivesLn (ls : List Ln) (w : World) (e : Ending) (w' : World) : Prop := ∃ v, e = .returned v ∧ LR w' v ls ∧ Below w.heap.size w w'
theorem take_next10 {ls : List Ln} {k : Nat} (h : k < ls.length) : ls.take (k + 1) = ls.take k ++ [ls[k]'h] := by rw [List.take_succ_eq_append_getElem h]
theorem RWithL_any (v : Value) (ls : List Ln) (k : Nat) (x : Ln) (t : ByteArray) (ht : x.text = t.data.toList) (w : World) (hw : LR w v ls) (hk : k < ls.length) (hl : ls.length ≤ 100000) :
  Calls Tryz.prog 64 #[v, .int .i64 (k : Int), .agg #[.int .i64 (x.no : Int), .int .i64 (x.ind : Int), .string t]] w (GivesLn (ls.set k x) w) := by
 obtain ⟨i0, hi, hz0, hz1, hz2⟩ := infoR
 obtain ⟨A, cap, rfl, hcap, hcell⟩ := hw
 have HCELL := hid hcell
 clear hcell
 obtain ⟨ms, hms⟩ : ∃ ms, ls.set k x = ms := ⟨_, rfl⟩
 obtain ⟨n, hn⟩ : ∃ n, ls.length = n := ⟨_, rfl⟩
 have HN := hid hn
 have HMN : Hid (ms.length = n) := hid (by rw [← hms, List.length_set, hn])
 have HAT : Hid (∀ h : k < ms.length, ms[k]'h = x) := hid (fun h => by subst hms; rw [List.getElem_set_self])
 have HOTH : Hid (∀ j, j ≠ k → ∀ (h : j < ms.length) (h2 : j < ls.length), ms[j]'h = ls[j]'h2) := hid (fun j hj h h2 => by subst hms; rw [List.getElem_set_ne (Ne.symm hj)])
 rw [hms]
 rw [hn] at hcap hl hk ⊢
 obtain ⟨no, hno⟩ : ∃ no : Int, (x.no : Int) = no := ⟨_, rfl⟩
 obtain ⟨ix, hix⟩ : ∃ ix : Int, (x.ind : Int) = ix := ⟨_, rfl⟩
 have HX : Hid (encN x = [.int .i64 no, .int .i64 ix, .string t]) := hid (by unfold encN; rw [hno, hix, ht])
 rw [hno, hix]
 clear hn hms hno hix ht
 have HON := hid (own_nil3 (w.alloc (.cells #[.int .i64 no, .int .i64 ix, .string t] 52)) 52)
 have hb1 : Below w.heap.size w ((w.alloc (.cells #[.int .i64 no, .int .i64 ix, .string t] 52)).alloc (.cells #[] 52)) := ((Below.refl _ _).alloc (Nat.le_refl _) _).alloc (by simp) _
 have hr1 : Row3 ((w.alloc (.cells #[.int .i64 no, .int .i64 ix, .string t] 52)).alloc (.cells #[] 52)) w.heap.size 52 (.int .i64 no) (.int .i64 ix) (.string t) := (Row3.make w _ _ _ _).alloc _
 have hsz : (w.alloc (.cells #[.int .i64 no, .int .i64 ix, .string t] 52)).heap.size = w.heap.size + 1 := by simp
 have HB1 := hid hb1
 have HR1 := hid hr1
 rw [hsz] at HON
 clear hb1 hr1 hsz
 go_enter Tryz.func64, Tryz.ntmps64
 go_wp2
 go_loopw [7, 8] (fun sv si wr => ∃ j : Nat, j ≤ n ∧ si = .int .i64 (j : Int) ∧ wr.ownsRow (w.heap.size + 1) 52 3 sv j (cellsN (ms.take j)) ∧ Hid (Below w.heap.size w wr ∧ Row3 wr w.heap.size 52 (.int .i64 no) (.int .i64 ix) (.string t))) (fun _ si _ => n - (intOf si).toNat)
 case atStart => exact ⟨0, Nat.zero_le _, rfl, HON.out, hid ⟨HB1.out, HR1.out⟩⟩
 case round =>
  clear HON HB1 HR1
  obtain ⟨j, hj, rfl, hown, HB⟩ := hrel
  by_cases hlt : j < n
  ·have hjl : j < ls.length := by rw [HN.out]; exact hlt
   have hjm : j < ms.length := by rw [HMN.out]; exact hlt
   have hjz : (j : Int) < (n : Int) := by omega
   have hne : ∀ q, u7.ownBlock = some q → w.heap.size + 1 ≤ q := fun q hq => (hown.lt q hq).1
   have hne0 : u7.ownBlock ≠ some w.heap.size := fun e => by have := hne _ e; omega
   have HNE := hid hne
   obtain ⟨YS, hYS⟩ : ∃ YS, YS = cellsN (ms.take j) := ⟨_, rfl⟩
   rw [← hYS] at hown
   have HYS := hid hYS
   have hHb := HB.out.1.size
   have hWs := HB.out.2.lt
   by_cases hjk : j = k
   ·subst hjk
    have HC : Hid (cellsN (ms.take (j + 1)) = YS ++ [.int .i64 no, .int .i64 ix, .string t]) := hid (by
     rw [take_next10 hjm, cellsN_snoc, HAT.out hjm, HX.out, hYS])
    obtain ⟨x0, x1, x2⟩ := HB.out.2.cells
    clear hYS hne
    go_wp2_with (at_builtin; refine wpList_append_own _ rfl _ _ 46 rfl (w.heap.size + 1) 52 i0 _ 3 32 Tryz.underlying46 hi hz0 hz1 hz2 rfl (by decide) _ _ _ rfl (hown.alloc _) ⟨wr.heap.size, 0, none⟩ 1 1 [.int .i64 no, .int .i64 ix, .string t] rfl rfl (cells_new wr _ _) (three_one _ _ _) (by unfold maxLen; omega) (by omega) (by simp; omega) ?_)
    intro v' w3 hown' hgrow hnil
    have HW2 := hid hown'
    have HG2 := hid (show World.grownBy _ w3 u7.ownBlock from hgrow)
    clear hown' hgrow hown hnil
    go_wp2
    go_roundw
    case measure => simp [intOf]; omega
    case rel => exact ⟨j + 1, by omega, by go_num, by rw [HC.out]; exact HW2.out, hid ⟨(HB.out.1.alloc HB.out.1.size _).grown HG2.out (by simp; omega) (fun q hq => by have := HNE.out q hq; omega), (HG2.out.block _ (by simp; omega) (fun e => hne0 e.symm)).trans (HB.out.2.alloc _)⟩⟩
   ·obtain ⟨g, rfl, hg, c0, c1, c2⟩ := HCELL.out j hjl
    obtain ⟨a, ha⟩ : ∃ a : Int, ((ls[j]'hjl).no : Int) = a := ⟨_, rfl⟩
    obtain ⟨b, hb⟩ : ∃ b : Int, ((ls[j]'hjl).ind : Int) = b := ⟨_, rfl⟩
    obtain ⟨q, hq⟩ : ∃ q : ByteArray, (⟨(ls[j]'hjl).text.toArray⟩ : ByteArray) = q := ⟨_, rfl⟩
    rw [ha] at c0
    rw [hb] at c1
    rw [hq] at c2
    have HC : Hid (cellsN (ms.take (j + 1)) = YS ++ [.int .i64 a, .int .i64 b, .string q]) := hid (by
     rw [take_next10 hjm, cellsN_snoc, HOTH.out j hjk hjm hjl, hYS]
     unfold encN
     rw [ha, hb, hq])
    have d0 := (HB.out.1.cell (p := ⟨g, j * 3, none⟩) hg).trans c0
    have d1 := (HB.out.1.cell (p := ⟨g, j * 3 + 1, none⟩) hg).trans c1
    have d2 := (HB.out.1.cell (p := ⟨g, j * 3 + 2, none⟩) hg).trans c2
    have hkz : ((j : Int) == (k : Int)) = false := beq_eq_false_iff_ne.2 (by omega)
    clear hYS hne ha hb hq c0 c1 c2 hjk
    go_wp2_with (at_builtin; refine wpList_append_own _ rfl _ _ 46 rfl (w.heap.size + 1) 52 i0 _ 3 32 Tryz.underlying46 hi hz0 hz1 hz2 rfl (by decide) _ _ _ rfl (hown.alloc _) ⟨wr.heap.size, 0, none⟩ 1 1 [.int .i64 a, .int .i64 b, .string q] rfl rfl (cells_new wr _ _) (three_one _ _ _) (by unfold maxLen; omega) (by omega) (by simp; omega) ?_)
    intro v' w3 hown' hgrow hnil
    have HW2 := hid hown'
    have HG2 := hid (show World.grownBy _ w3 u7.ownBlock from hgrow)
    clear hown' hgrow hown hnil
    go_wp2
    go_roundw
    case measure => simp [intOf]; omega
    case rel => exact ⟨j + 1, by omega, by go_num, by rw [HC.out]; exact HW2.out, hid ⟨(HB.out.1.alloc HB.out.1.size _).grown HG2.out (by simp; omega) (fun q hq => by have := HNE.out q hq; omega), (HG2.out.block _ (by simp; omega) (fun e => hne0 e.symm)).trans (HB.out.2.alloc _)⟩⟩
  ·obtain rfl : j = n := by omega
   have HO := hid hown
   rw [List.take_of_length_le (by rw [HMN.out]; exact Nat.le_refl _)] at HO
   clear hown
   go_wp2
   go_ret
   exact ⟨_, rfl, lr_of_owns HO.out, HB.out.1⟩
end
end Go.Proofs.YtecglpocmhkkiaaGreatDoor
