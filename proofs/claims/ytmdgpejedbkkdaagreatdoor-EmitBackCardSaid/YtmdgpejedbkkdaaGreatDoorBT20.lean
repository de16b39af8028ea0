/- RefNod6, NdRow, QuoScan2, RefFlo3, LinBehind, LinCon -/
import Derived.Deep.CutRange
import Derived.Deep.LoopGhost
import Derived.Deep.RegionHeld3
import Derived.Deep.RegionLaw
import Derived.Laws.AppendOwnNone
import Derived.Lib.BufferMore
import Derived.Lib.OwnBridge
import Derived.Lib.SliceRun
import Derived.Maps.AppendAt
import Derived.ScopeJumps
import Derived.Test.YtmdgpejedbkkdaaGreatDoorBT12
import Derived.Test.YtmdgpejedbkkdaaGreatDoorBT15
import Derived.Test.YtmdgpejedbkkdaaGreatDoorBT18
import Derived.Test.YtmdgpejedbkkdaaGreatDoorBT19
import Derived.Test.YtmdgpejedbkkdaaGreatDoorBT3
import Derived.Test.YtmdgpejedbkkdaaGreatDoorBT5
import Derived.WalkMore
set_option linter.unusedVariables false
set_option linter.unusedSimpArgs false
set_option maxRecDepth 100000
set_option maxHeartbeats 16000000
open Go.Lib (hid)
namespace Go.Proofs.YtmdgpejedbkkdaaGreatDoor
section
open Go.RowKit Go.Sort
open Nw N8
theorem nd_nul (S : Nat → Prop) (w : World) : NdC S w nul (.int .i64 0) (.string ⟨#[]⟩) (.slice none 0 0) (.slice none 0 0) := by
 unfold nul
 rw [NdC]
 refine ⟨rfl, rfl, ?_, none, 0, rfl, Nat.zero_le _, Nat.zero_le _, fun _ => rfl, ?_⟩
 ·exact ⟨none, 0, rfl, Nat.zero_le _, Nat.zero_le _, .inl ⟨rfl, fun _ => rfl⟩⟩
 ·rw [NdK]; trivial
theorem NdC.kid {S : Nat → Prop} {w : World} {k : Int} {t : L8} {ks : List L8} {ds : List Nd} {c0 c1 c2 : Value} {A : Option Addr} {n cap : Nat} (h : NdC S w (.mk k t ks ds) c0 c1 c2 (.slice A n cap)) (j : Nat) (hj : j < ds.length) :
  ∃ (b o : Nat) (e0 e1 e2 e3 : Value), A = some ⟨b, o, none⟩ ∧ S b ∧ w.cell? ⟨b, o + j * 4, none⟩ = some e0 ∧ w.cell? ⟨b, o + j * 4 + 1, none⟩ = some e1 ∧
    w.cell? ⟨b, o + j * 4 + 2, none⟩ = some e2 ∧ w.cell? ⟨b, o + j * 4 + 3, none⟩ = some e3 ∧ NdC S w (ds[j]'hj) e0 e1 e2 e3 := by
 rw [NdC] at h
 obtain ⟨_, _, _, A', cap', hA', _, _, _, hK⟩ := h
 have hAe : A = A' := by injection hA'
 subst hAe
 have := NdK.at_ hK j hj
 rw [Nat.zero_add] at this
 exact this
end
section
open Go.RowKit Go.Sort
open Nw N8 Go.ChangeShapes Go.WideShapes
structure Q4 where
 a : Value
 b : Value
 c : Value
 d : Value
def flat4 : List Q4 → List Value
 | [] => []
 | q :: l => q.a :: q.b :: q.c :: q.d :: flat4 l
theorem flat4_len : ∀ (l : List Q4), (flat4 l).length = l.length * 4
 | [] => rfl
 | q :: l => by
  rw [flat4]
  simp only [List.length_cons, flat4_len l]; omega
theorem flat4_app : ∀ (l m : List Q4), flat4 (l ++ m) = flat4 l ++ flat4 m
 | [], m => rfl
 | q :: l, m => by rw [List.cons_append, flat4, flat4, flat4_app l m]; rfl
theorem flat4_get : ∀ (l : List Q4) (j : Nat) (h : j < l.length), (flat4 l)[j * 4]? = some (l[j]'h).a ∧ (flat4 l)[j * 4 + 1]? = some (l[j]'h).b ∧ (flat4 l)[j * 4 + 2]? = some (l[j]'h).c ∧ (flat4 l)[j * 4 + 3]? = some (l[j]'h).d
 | q :: l, 0, _ => ⟨rfl, rfl, rfl, rfl⟩
 | q :: l, j + 1, h => by
  have := flat4_get l j (Nat.lt_of_succ_lt_succ h)
  rw [flat4, show (j + 1) * 4 = j * 4 + 4 by omega]
  exact this
theorem flat4_inv : ∀ (l : List Q4) (i : Nat) (u : Value), (flat4 l)[i]? = some u → ∃ (j : Nat) (h : j < l.length), (i = j * 4 ∧ u = (l[j]'h).a) ∨ (i = j * 4 + 1 ∧ u = (l[j]'h).b) ∨ (i = j * 4 + 2 ∧ u = (l[j]'h).c) ∨ (i = j * 4 + 3 ∧ u = (l[j]'h).d)
 | [], i, u, h => by cases h
 | p :: l, 0, u, h => ⟨0, Nat.succ_pos _, .inl ⟨rfl, by injection h with h; exact h.symm⟩⟩
 | p :: l, 1, u, h => ⟨0, Nat.succ_pos _, .inr (.inl ⟨rfl, by injection h with h; exact h.symm⟩)⟩
 | p :: l, 2, u, h => ⟨0, Nat.succ_pos _, .inr (.inr (.inl ⟨rfl, by injection h with h; exact h.symm⟩))⟩
 | p :: l, 3, u, h => ⟨0, Nat.succ_pos _, .inr (.inr (.inr ⟨rfl, by injection h with h; exact h.symm⟩))⟩
 | p :: l, i + 4, u, h => by
  obtain ⟨j, hj, hc⟩ := flat4_inv l i u h
  refine ⟨j + 1, Nat.succ_lt_succ hj, ?_⟩
  rcases hc with ⟨rfl, e⟩ | ⟨rfl, e⟩ | ⟨rfl, e⟩ | ⟨rfl, e⟩
  ·exact .inl ⟨by omega, e⟩
  ·exact .inr (.inl ⟨by omega, e⟩)
  ·exact .inr (.inr (.inl ⟨by omega, e⟩))
  ·exact .inr (.inr (.inr ⟨by omega, e⟩))
def NdQ (S : Nat → Prop) (w : World) (d : Nd) (q : Q4) : Prop := NdC S w d q.a q.b q.c q.d
theorem NdC.cellsOk {S : Nat → Prop} {w : World} {d : Nd} {c0 c1 c2 c3 : Value} (h : NdC S w d c0 c1 c2 c3) :
  ∃ (k : Int) (s : ByteArray) (a : Option Addr) (n c : Nat) (A : Option Addr) (m q : Nat), c0 = .int .i64 k ∧ c1 = .string s ∧ c2 = .slice a n c ∧ c3 = .slice A m q := by
 cases d with
 | mk k t ks ds =>
  rw [NdC] at h
  obtain ⟨h0, h1, ⟨a, c, h4, _⟩, A, cap, h3, _⟩ := h
  exact ⟨k, _, a, _, c, A, _, cap, h0, h1, h4, h3⟩
theorem NdQ.one {S : Nat → Prop} {w : World} {d : Nd} {q : Q4} (h : NdQ S w d q) : q.a.oneCell' = true ∧ q.b.oneCell' = true ∧ q.c.oneCell' = true ∧ q.d.oneCell' = true := by
 obtain ⟨k, s, a, n, c, A, m, r, h0, h1, h2, h3⟩ := NdC.cellsOk h
 rw [h0, h1, h2, h3]
 exact ⟨rfl, rfl, rfl, rfl⟩
theorem flat4_one {S : Nat → Prop} {w : World} {ds : List Nd} {qs : List Q4} (hl : qs.length = ds.length) (h : ∀ (j : Nat) (h : j < qs.length) (g : j < ds.length), NdQ S w (ds[j]'g) (qs[j]'h)) : ∀ u ∈ flat4 qs, u.oneCell' = true := by
 intro u hu
 obtain ⟨i, hi, e⟩ := List.mem_iff_getElem.1 hu
 obtain ⟨j, hj, hc⟩ := flat4_inv qs i u (by rw [List.getElem?_eq_getElem hi, e])
 obtain ⟨o0, o1, o2, o3⟩ := (h j hj (by omega)).one
 rcases hc with ⟨-, e⟩ | ⟨-, e⟩ | ⟨-, e⟩ | ⟨-, e⟩ <;> rw [e] <;> assumption
def KdS (S : Nat → Prop) (w : World) (v : Value) (ds : List Nd) : Prop :=
 ∃ (A : Option Addr) (cap : Nat), v = .slice A ds.length cap ∧ ds.length ≤ cap ∧ cap ≤ maxLen ∧ (A = none → cap = 0) ∧ NdK S w ds A 0
def KO (S : Nat → Prop) (base : Nat) (w : World) (v : Value) (qs : List Q4) (ds : List Nd) : Prop :=
 w.ownsRow base 25 4 v ds.length (flat4 qs) ∧ qs.length = ds.length ∧ ∀ (j : Nat) (h : j < qs.length) (g : j < ds.length), NdQ S w (ds[j]'g) (qs[j]'h)
theorem owns_keep {w w' : World} {base n size : Nat} {e : TypeId} {v : Value} {xs : List Value} (h : w.ownsRow base e size v n xs) (hr : ∀ g, v.ownBlock = some g → w'.heap[g]? = w.heap[g]?) : w'.ownsRow base e size v n xs := by
 refine ⟨h.1, ?_⟩
 rcases h.2 with h0 | ⟨g, cap, cur, h1, h2, h3, h4⟩
 ·exact .inl h0
 ·exact .inr ⟨g, cap, cur, h1, h2, (hr g (by rw [h1]; rfl)).trans h3, h4⟩
theorem owns_low {w : World} {base base' n size : Nat} {e : TypeId} {v : Value} {xs : List Value} (h : w.ownsRow base e size v n xs) (hb : base' ≤ base) : w.ownsRow base' e size v n xs := by
 refine ⟨h.1, ?_⟩
 rcases h.2 with h0 | ⟨g, cap, cur, h0, hg, r⟩
 ·exact .inl h0
 ·exact .inr ⟨g, cap, cur, h0, Nat.le_trans hb hg, r⟩
theorem owns_below {w w' : World} {base n size : Nat} {e : TypeId} {v : Value} {xs : List Value} (h : w.ownsRow base e size v n xs) (hb : Below w.heap.size w w') : w'.ownsRow base e size v n xs :=
 owns_keep h fun g hg => hb.block g (h.lt g hg).2
theorem owns_apart {w : World} {base base' n n' size size' : Nat} {e e' : TypeId} {v v' : Value} {xs xs' : List Value} (h : w.ownsRow base e size v n xs) (h' : w.ownsRow base' e' size' v' n' xs') (hne : e ≠ e') {g : Nat} (hg : v.ownBlock = some g) : v'.ownBlock ≠ some g := by
 intro hg'
 rcases h.2 with ⟨h0, _⟩ | ⟨g1, cap, cur, h1, h2, h3, h4⟩
 ·rw [h0] at hg; cases hg
 ·rcases h'.2 with ⟨h0, _⟩ | ⟨g2, cap', cur', k1, k2, k3, k4⟩
  ·rw [h0] at hg'; cases hg'
  ·rw [h1] at hg
   rw [k1] at hg'
   have e1 : g1 = g := by injection hg
   have e2 : g2 = g := by injection hg'
   subst e1; subst e2
   rw [h3] at k3
   injection k3 with k3
   injection k3 with _ k3 _
   exact hne k3
theorem KO.keep {S T : Nat → Prop} {base : Nat} {w w' : World} {v : Value} {qs : List Q4} {ds : List Nd} (h : KO S base w v qs ds) (hk : ∀ b, S b → T b ∧ w'.heap[b]? = w.heap[b]?) (hr : ∀ g, v.ownBlock = some g → w'.heap[g]? = w.heap[g]?) : KO T base w' v qs ds :=
 ⟨owns_keep h.1 hr, h.2.1, fun j hj g => NdC.keep hk _ (h.2.2 j hj g)⟩
theorem KO.below {S : Nat → Prop} {base : Nat} {w w' : World} {v : Value} {qs : List Q4} {ds : List Nd} (h : KO S base w v qs ds) (hS : ∀ b, S b → b < w.heap.size) (hb : Below w.heap.size w w') : KO S base w' v qs ds :=
 h.keep (fun b hs => ⟨hs, hb.block b (hS b hs)⟩) fun g hg => hb.block g (h.1.lt g hg).2
theorem infoN0 : (Tryz.prog.info? 25).map (fun i => (i.zero, i.size, i.bytes)) = some (some (.agg #[.int .i64 0, .string ⟨#[]⟩, .slice none 0 0, .slice none 0 0]), 4, 72) := by kernel_rfl
theorem infoN : ∃ i, Tryz.prog.info? 25 = some i ∧ i.zero = some (.agg #[.int .i64 0, .string ⟨#[]⟩, .slice none 0 0, .slice none 0 0]) ∧ i.size = 4 ∧ i.bytes = 72 := by
 have h := infoN0
 cases hi : Tryz.prog.info? 25 with
 | none => rw [hi] at h; cases h
 | some i =>
  rw [hi] at h
  simp only [Option.map_some, Option.some.injEq, Prod.mk.injEq] at h
  exact ⟨i, rfl, h.1, h.2.1, h.2.2⟩
theorem cells_alloc {w : World} {o : Obj} {p : Addr} {v : Value} (h : w.cell? p = some v) : (w.alloc o).cell? p = some v :=
 (World.cell?_of_block (Below.heap_alloc w o p.block (cell_lt h))).trans h
theorem one_str (x : ByteArray) : ∀ u ∈ [Value.string x], u.oneCell' = true := by
 intro u hu
 rw [List.mem_singleton] at hu
 subst hu; rfl
theorem four_nd (k : Int) (s : ByteArray) (a : Option Addr) (n c : Nat) (A : Option Addr) (m q : Nat) : ∀ u ∈ [Value.int .i64 k, .string s, .slice a n c, .slice A m q], u.oneCell' = true := by
 intro u hu
 simp only [List.mem_cons, List.not_mem_nil, or_false] at hu
 rcases hu with rfl | rfl | rfl | rfl <;> rfl
theorem cell_grown {w w' : World} {row : Option Nat} {p : Addr} {v : Value} (h : w.cell? p = some v) (hg : w.grownBy w' row) (hne : row ≠ some p.block) : w'.cell? p = some v := hg.cell h fun e => hne e.symm
theorem news_blk {w : World} {B : Nat} (cs : Array Value) {t : TypeId} (hb : w.heap[B]? = some (.cells cs t (0, 0))) : ∀ j u, cs.toList[j]? = some u → w.cell? ((⟨B, 0, none⟩ : Addr).add j) = some u := by
 intro j u h
 rw [add_plain, Nat.zero_add, cell_of_row _ _ j cs t (0, 0) hb]
 simpa using h
theorem alloc_at (w : World) (o : Obj) : (w.alloc o).heap[w.heap.size]? = some o := heap_alloc_new w o
theorem alloc_at1 (w : World) (o p : Obj) : ((w.alloc p).alloc o).heap[w.heap.size + 1]? = some o := by
 have := heap_alloc_new (w.alloc p) o
 rwa [show (w.alloc p).heap.size = w.heap.size + 1 by simp] at this
theorem alloc_at0 (w : World) (o p : Obj) : ((w.alloc o).alloc p).heap[w.heap.size]? = some o := (Below.heap_alloc (w.alloc o) p w.heap.size (by simp)).trans (heap_alloc_new w o)
theorem set_oth (w : World) (p : Addr) (v : Value) (b : Nat) (hb : b ≠ p.block) : (w.setCell p v).heap[b]? = w.heap[b]? := Below.heap_setCell _ _ _ _ hb
theorem cell_set {w : World} {p r : Addr} {u x : Value} (h : w.cell? p = some u) (hp : p.block ≠ r.block) : (w.setCell r x).cell? p = some u := (World.cell?_of_block (set_oth _ _ _ _ hp)).trans h
theorem frozen_grown {w w' : World} {row : Option Nat} {p : Addr} (h : w.frozen? p = false) (hg : w.grownBy w' row) (hlt : p.block < w.heap.size) (hne : row ≠ some p.block) : w'.frozen? p = false :=
 (World.frozen?_of_block (hg.block p.block hlt fun e => hne e.symm)).trans h
theorem own_shape {w : World} {base n size : Nat} {e : TypeId} {v : Value} {xs : List Value} (h : w.ownsRow base e size v n xs) : ∃ a c, v = .slice a n c := by
 rcases h.2 with ⟨h0, h1⟩ | ⟨g, cap, cur, h0, _⟩
 ·subst h1; exact ⟨_, _, h0⟩
 ·exact ⟨_, _, h0⟩
theorem frozen_alloc {w : World} {o : Obj} {p : Addr} (h : w.frozen? p = false) (hlt : p.block < w.heap.size) : (w.alloc o).frozen? p = false :=
 (World.frozen?_of_block (Below.heap_alloc w o p.block hlt)).trans h
theorem KO.kdS {S T : Nat → Prop} {base : Nat} {w : World} {v : Value} {qs : List Q4} {ds : List Nd} (h : KO S base w v qs ds) (hT : ∀ b, S b → T b) (hv : ∀ b, v.ownBlock = some b → T b) : KdS T w v ds := by
 rcases h.1.2 with ⟨h0, hn⟩ | ⟨g, cap, cur, h1, h2, h3, h4, h5, h6, h7⟩
 ·obtain rfl : ds = [] := List.length_eq_zero_iff.1 hn
  exact ⟨none, 0, h0, Nat.le_refl _, Nat.zero_le _, fun _ => rfl, by rw [NdK]; trivial⟩
 ·subst h1
  refine ⟨some ⟨g, 0, none⟩, cap, rfl, h4, h5, fun h => (by cases h), ndK_of ds 0 fun j hj => ?_⟩
  have hq : j < qs.length := by rw [h.2.1]; exact hj
  obtain ⟨f0, f1, f2, f3⟩ := flat4_get qs j hq
  refine ⟨g, 0, _, _, _, _, rfl, hv g rfl, ?_, ?_, ?_, ?_, NdC.keep (fun b hs => ⟨hT b hs, rfl⟩) _ (h.2.2 j hq hj)⟩
  ·rw [Nat.zero_add, Nat.zero_add]; exact (h.1.cellAt (j * 4) (by omega)).trans f0
  ·rw [Nat.zero_add, Nat.zero_add]; exact (h.1.cellAt (j * 4 + 1) (by omega)).trans f1
  ·rw [Nat.zero_add, Nat.zero_add]; exact (h.1.cellAt (j * 4 + 2) (by omega)).trans f2
  ·rw [Nat.zero_add, Nat.zero_add]; exact (h.1.cellAt (j * 4 + 3) (by omega)).trans f3
theorem KdS.kid {S : Nat → Prop} {w : World} {A : Option Addr} {n cap : Nat} {ds : List Nd} (h : KdS S w (.slice A n cap) ds) (j : Nat) (hj : j < ds.length) :
  ∃ (b o : Nat) (e0 e1 e2 e3 : Value), A = some ⟨b, o, none⟩ ∧ S b ∧ w.cell? ⟨b, o + j * 4, none⟩ = some e0 ∧ w.cell? ⟨b, o + j * 4 + 1, none⟩ = some e1 ∧
    w.cell? ⟨b, o + j * 4 + 2, none⟩ = some e2 ∧ w.cell? ⟨b, o + j * 4 + 3, none⟩ = some e3 ∧ NdC S w (ds[j]'hj) e0 e1 e2 e3 := by
 obtain ⟨A', cap', h1, -, -, -, h5⟩ := h
 have hAe : A = A' := by injection h1
 subst hAe
 have := NdK.at_ h5 j hj
 rw [Nat.zero_add] at this
 exact this
theorem rdS_of_owns {w : World} {base n : Nat} {e : TypeId} {v : Value} {l : List L8} (h : w.ownsRow base e 1 v n (l.map encStr)) (T : Nat → Prop) (hT : ∀ b, v.ownBlock = some b → T b) : RdS T w v l := by
 obtain ⟨a, cap, rfl, h1, h2, h3⟩ := rd_of_owns h
 refine ⟨a, cap, rfl, h1, h2, ?_⟩
 rcases h3 with h3 | ⟨b, o, rfl, h4, h5⟩
 ·exact .inl h3
 ·rcases h.2 with ⟨h0, _⟩ | ⟨g, cap', cur, h6, _⟩
  ·cases h0
  ·injection h6 with h6 _ _
   injection h6 with h6
   injection h6 with h6 h7 _
   subst h6; subst h7
   exact .inr ⟨b, 0, rfl, hT b rfl, h5⟩
theorem step_append_own_at {P : Program} {ops : Array Oper} {o : Oper} {a : Act} {w : World} {K : Act → World → Prop} {Q : Exit → Act → World → Prop} {E : Prop} (hg : o.guard = none) (s x : Operand) (t : TypeId)
  (ho : o.op = .call { callee := .builtin .append, args := #[s, x], argTypes := #[t, t] })
  (base : Nat) (e : TypeId) (i : TypeInfo) (z : Value) (size bytes : Nat) (ht : P.underlying t = some (.slice e)) (hi : P.info? e = some i) (hz : i.zero = some z)
  (hsize : i.size = size) (hby : i.bytes = bytes) (hzs : z.cells.size = size) (hsz : 0 < size)
  (v : Value) (n : Nat) (xs : List Value) (hs : a.eval s = v) (hown : w.ownsRow base e size v n xs)
  (ad : Addr) (m c : Nat) (news : List Value) (hx : a.eval x = .slice (some ad) m c) (hl : news.length = m * size) (hnews : ∀ j u, news[j]? = some u → w.cell? (ad.add j) = some u) (h1 : ∀ u ∈ news, u.oneCell' = true)
  (h63 : n + m ≤ maxLen) (hbytes : (n + m) * bytes ≤ 140737488355328) (hbase : base ≤ w.heap.size)
  (h : ∀ v' w', w'.ownsRow base e size v' (n + m) (xs ++ news) → w.grownBy w' v.ownBlock → (v'.ownBlock = v.ownBlock ∨ v'.ownBlock = some w.heap.size) → K (a.put o.dst v') w') :
  if Region.wanted o (yielded ops a.tmps) = true then Oper.wp P o a w K Q else E := by
 rw [if_pos (by simp [Region.wanted, hg])]
 obtain ⟨v', w', hr, h2, h3, h4, h5⟩ := run_append_own_at (P := P) w base t o.type e i z size bytes ht hi hz hsize hby hzs hsz v n xs hown ad m c news hl hnews h1 h63 hbytes hbase
 unfold Oper.wp execOp
 simp only [ho, resolve, invoke, builtin, Sem.run_bind, Sem.run_pure, Result.andThen_ok, List.map_toArray, List.map_cons, List.map_nil, hs, hx, hr]
 exact h v' w' h2 h3 h5
section
variable {S : Nat → Prop} {OUT : Nat} {G : World → Prop} {W0 W1 W2 wr : World} {k : Int} {T : ByteArray} {s7 s8 s' : Value} {l7 l' : List L8} {M : List Nd}
end
end
section
open Go.RowKit Go.Sort
open Q6
theorem scan_no {l : List UInt8} {i : Int} (h : isQuote l i = false) : scanV l i = [] ∧ scanN l i = 0 ∧ scanE l i = 2 := by
 unfold scanV scanN scanE; rw [h]; exact ⟨rfl, rfl, rfl⟩
theorem scan_is {l : List UInt8} {i : Int} (h : isQuote l i = true) : scanV l i = outV (scanR l i.toNat) ∧ scanN l i = outN (scanR l i.toNat) ∧ scanE l i = outE (scanR l i.toNat) := by
 unfold scanV scanN scanE; rw [h]; exact ⟨rfl, rfl, rfl⟩
theorem Scan_any (s : ByteArray) (i : Int) (w : World) (hs : s.size ≤ 1000000) (i1 : -9223372036854775808 ≤ i) (i2 : i ≤ 9223372036854775807) (q : ByteArray) (x y : Int)
  (hq : scanV s.data.toList i = q.data.toList) (hx : scanN s.data.toList i = x) (hy : scanE s.data.toList i = y) :
  Calls Tryz.prog 96 #[.string s, .int .i64 i] w fun e w' => e = .returned (.tuple #[.string q, .int .i64 x, .int .i64 y]) ∧ Below w.heap.size w w' := by
 have HOUT : Hid (scanV s.data.toList i = q.data.toList ∧ scanN s.data.toList i = x ∧ scanE s.data.toList i = y) := hid ⟨hq, hx, hy⟩
 clear hq hx hy
 have HLEN := hid (len_eq s)
 by_cases h0 : i < 0
 ·have HN := hid (scan_no (l := s.data.toList) (i := i) (by unfold isQuote; rw [decide_eq_false (by omega : ¬ 0 ≤ i)]; rfl))
  go_enter Tryz.func96, Tryz.ntmps96
  go_wp2
  go_ret3
  exact ⟨ret_sii (bytes_ext (by rw [← HOUT.out.1, HN.out.1])) (by rw [← HOUT.out.2.1, HN.out.2.1]) (by rw [← HOUT.out.2.2, HN.out.2.2]), Below.refl _ _⟩
 by_cases h1 : (s.size : Int) ≤ i
 ·have HN := hid (scan_no (l := s.data.toList) (i := i) (by unfold isQuote; rw [decide_eq_false (by rw [HLEN.out]; omega : ¬ i < (s.data.toList.length : Int)), Bool.and_false]; rfl))
  go_enter Tryz.func96, Tryz.ntmps96
  go_wp2
  go_ret3
  exact ⟨ret_sii (bytes_ext (by rw [← HOUT.out.1, HN.out.1])) (by rw [← HOUT.out.2.1, HN.out.2.1]) (by rw [← HOUT.out.2.2, HN.out.2.2]), Below.refl _ _⟩
 obtain ⟨k, rfl⟩ : ∃ k : Nat, i = (k : Int) := ⟨i.toNat, by omega⟩
 have hk : k < s.size := by omega
 have hkz : (k : Int) < (s.size : Int) := by omega
 have hkz' : ¬ (s.size : Int) ≤ (k : Int) := by omega
 obtain ⟨c, hc⟩ : ∃ c, s[k]'hk = c := ⟨_, rfl⟩
 have hg : s.data.toList.getD k 0 = c := (getd s k hk).trans hc
 have hQ : isQuote s.data.toList (k : Int) = (decide (c = 34) || decide (c = 39)) := by
  unfold isQuote
  rw [decide_eq_true (by omega : (0 : Int) ≤ (k : Int)), decide_eq_true (by rw [HLEN.out]; omega : (k : Int) < (s.data.toList.length : Int)), Int.toNat_natCast, hg]; rfl
 have hR : scanR s.data.toList k = if c = 34 then atD s.data.toList [] (k + 1) else atS s.data.toList [] (k + 1) := by unfold scanR; rw [hg]
 have HQ := hid hQ
 have HR := hid hR
 clear hg hQ hR h0 h1
 have kw : IntKind.i64.wrap ((k : Int) + 1) = (k : Int) + 1 := IntWalk.i64_in _ (by omega)
 have ek : ((k + 1 : Nat) : Int) = (k : Int) + 1 := by omega
 by_cases h34 : c = 34
 ·have m34 : ((c.toNat : Int) == 34) = true := by rw [isC_beq 34 c 34 rfl, isC_iff.2 h34]
  have HI := hid (scan_is (l := s.data.toList) (i := (k : Int)) (by rw [HQ.out, decide_eq_true h34]; rfl))
  rw [Int.toNat_natCast, HR.out, if_pos h34] at HI
  have hC := fun w0 => scanDouble_any s (k + 1) w0 hs (by omega) q x y (by rw [← HI.out.1]; exact HOUT.out.1) (by rw [← HI.out.2.1]; exact HOUT.out.2.1) (by rw [← HI.out.2.2]; exact HOUT.out.2.2)
  rw [ek] at hC
  have HC := hid hC
  clear hC ek h34
  go_enter Tryz.func96, Tryz.ntmps96
  go_wp2_with (go_at_call 122; refine (HC.out _).mono ?_; rintro e w' ⟨rfl, hb⟩)
  go_ret3
  exact ⟨rfl, hb⟩
 ·have m34 : ((c.toNat : Int) == 34) = false := by rw [isC_beq 34 c 34 rfl]; exact Bool.eq_false_iff.2 (fun e => h34 (isC_iff.1 e))
  by_cases h39 : c = 39
  ·have m39 : ((c.toNat : Int) == 39) = true := by rw [isC_beq 39 c 39 rfl, isC_iff.2 h39]
   have HI := hid (scan_is (l := s.data.toList) (i := (k : Int)) (by rw [HQ.out, decide_eq_true h39, Bool.or_true]))
   rw [Int.toNat_natCast, HR.out, if_neg h34] at HI
   have hC := fun w0 => scanSingle_any s (k + 1) w0 hs (by omega) q x y (by rw [← HI.out.1]; exact HOUT.out.1) (by rw [← HI.out.2.1]; exact HOUT.out.2.1) (by rw [← HI.out.2.2]; exact HOUT.out.2.2)
   rw [ek] at hC
   have HC := hid hC
   clear hC ek h34 h39
   go_enter Tryz.func96, Tryz.ntmps96
   go_wp2_with (go_at_call 123; refine (HC.out _).mono ?_; rintro e w' ⟨rfl, hb⟩)
   go_ret3
   exact ⟨rfl, hb⟩
  ·have m39 : ((c.toNat : Int) == 39) = false := by rw [isC_beq 39 c 39 rfl]; exact Bool.eq_false_iff.2 (fun e => h39 (isC_iff.1 e))
   have HN := hid (scan_no (l := s.data.toList) (i := (k : Int)) (by rw [HQ.out, decide_eq_false h34, decide_eq_false h39]; rfl))
   clear ek h34 h39
   go_enter Tryz.func96, Tryz.ntmps96
   go_wp2
   go_ret3
   exact ⟨ret_sii (bytes_ext (by rw [← HOUT.out.1, HN.out.1])) (by rw [← HOUT.out.2.1, HN.out.2.1]) (by rw [← HOUT.out.2.2, HN.out.2.2]), Below.refl _ _⟩
end
end Go.Proofs.YtmdgpejedbkkdaaGreatDoor
namespace Go.Proofs.YtmdgpejedbkkdaaGreatDoor
open Go.RowKit Go.Sort
open Nw N8 Q6 F9
namespace F9
theorem plain_first {t : L8} (h : plainB t = true) : t ≠ [] ∧ has firsts (t.getD 0 0) = false := by
 unfold plainB at h
 by_cases hb : bad3 t = true
 ·rw [if_pos hb] at h; cases h
 ·rw [if_neg hb] at h
  have hne : t ≠ [] := by
   rintro rfl
   exact hb (by decide)
  refine ⟨hne, ?_⟩
  have h1 := every_iff.1 h 0 (List.length_pos_iff.2 hne)
  unfold okI at h1
  rw [show bef t 0 = 10 by simp [bef]] at h1
  unfold plainF at h1
  rw [Bool.eq_false_iff]; intro e
  rw [e] at h1
  revert h1; simp [isC]
theorem row_plain {t : L8} (h : rowB t = true) : plainB t = true := by
 unfold rowB at h
 rw [Bool.and_eq_true] at h
 exact h.1
theorem headD_getD (l : L8) : l.headD 0 = l.getD 0 0 := by cases l <;> rfl
theorem plain_notQ {t : L8} (h : isQ (t.headD 0) = true) : plainB t = false ∧ rowB t = false := by
 have key : plainB t = false := by
  rw [Bool.eq_false_iff]; intro e
  have h1 := (plain_first e).2
  rw [← headD_getD] at h1
  have h2 : (t.headD 0) ∉ firsts := of_decide_eq_false h1
  unfold isQ at h
  rw [Bool.or_eq_true] at h
  rcases h with h | h
  ·exact h2 (by rw [of_decide_eq_true h]; decide)
  ·exact h2 (by rw [of_decide_eq_true h]; decide)
 exact ⟨key, Bool.eq_false_iff.2 fun e => by rw [row_plain e] at key; cases key⟩
def scK (P : Option Nd) : Int := (P.getD nul).kind
def scT (P : Option Nd) : ByteArray := ba (P.getD nul).text
theorem scan_zero {l : L8} (h : l ≠ []) : (isQ (l.headD 0) = true → scanV l 0 = outV (scnP l) ∧ scanN l 0 = outN (scnP l) ∧ scanE l 0 = outE (scnP l)) ∧ (isQ (l.headD 0) = false → scanE l 0 = 2) := by
 have hp : 0 < l.length := List.length_pos_iff.2 h
 have e : isQuote l 0 = isQ (l.headD 0) := by
  unfold isQuote isQ
  rw [headD_getD, decide_eq_true (show (0 : Int) ≤ 0 by omega), decide_eq_true (show (0 : Int) < (l.length : Int) by omega)]
  rfl
 refine ⟨fun hq => ?_, fun hq => ?_⟩
 ·exact scan_is (e.trans hq)
 ·exact (scan_no (e.trans hq)).2.2
end F9
def p4 (w : World) (g : Nat) (a b c d : Value) : World := (((w.setCell ⟨g, 0, none⟩ a).setCell ⟨g, 1, none⟩ b).setCell ⟨g, 2, none⟩ c).setCell ⟨g, 3, none⟩ d
theorem below_p4 {B : Nat} {w w' : World} {g : Nat} (h : Below B w w') (hg : B ≤ g) (a b c d : Value) : Below B w (p4 w' g a b c d) :=
 (((h.setCell (p := ⟨g, 0, none⟩) hg a).setCell (p := ⟨g, 1, none⟩) hg b).setCell (p := ⟨g, 2, none⟩) hg c).setCell (p := ⟨g, 3, none⟩) hg d
theorem p4_oth {w : World} {g : Nat} (b : Nat) (hb : b ≠ g) (a' b' c' d' : Value) : (p4 w g a' b' c' d').heap[b]? = w.heap[b]? := by
 unfold p4
 rw [Below.heap_setCell _ _ _ _ (by show b ≠ g; omega), Below.heap_setCell _ _ _ _ (by show b ≠ g; omega), Below.heap_setCell _ _ _ _ (by show b ≠ g; omega), Below.heap_setCell _ _ _ _ (by show b ≠ g; omega)]
theorem p4_size (w : World) (g : Nat) (a b c d : Value) : (p4 w g a b c d).heap.size = w.heap.size := by unfold p4; simp
theorem nd_txt (S : Nat → Prop) (w : World) (q : ByteArray) : NdC S w (txt q.data.toList) (.int .i64 1) (.string q) (.slice none 0 0) (.slice none 0 0) := by
 unfold txt
 rw [NdC]
 refine ⟨rfl, by rw [ba_of], ⟨none, 0, rfl, Nat.zero_le _, Nat.zero_le _, .inl ⟨rfl, fun _ => rfl⟩⟩, none, 0, rfl, Nat.zero_le _, Nat.zero_le _, fun _ => rfl, ?_⟩
 rw [NdK]; trivial
theorem nd_scl {row : Bool} {l : L8} (S : Nat → Prop) (w : World) : NdC S w ((sclS row l).getD nul) (.int .i64 (scK (sclS row l))) (.string (scT (sclS row l))) (.slice none 0 0) (.slice none 0 0) := by
 have key : ∀ P : Option Nd, (P = none ∨ P = some nul ∨ ∃ t, P = some (txt t)) → NdC S w (P.getD nul) (.int .i64 (scK P)) (.string (scT P)) (.slice none 0 0) (.slice none 0 0) := by
  rintro P (rfl | rfl | ⟨t, rfl⟩)
  ·exact nd_nul S w
  ·exact nd_nul S w
  ·have := nd_txt S w (ba t)
   rw [ba_data] at this
   exact this
 refine key _ ?_
 unfold sclS
 split
 ·exact .inr (.inl rfl)
 ·split
  ·cases scnP l with
   | none => exact .inl rfl
   | some p => exact .inr (.inr ⟨_, rfl⟩)
  ·by_cases hb : (if row then rowB l else plainB l) = true
   ·rw [if_pos hb]; exact .inr (.inr ⟨_, rfl⟩)
   ·rw [if_neg hb]; exact .inl rfl
end Go.Proofs.YtmdgpejedbkkdaaGreatDoor
namespace Go.Proofs.YtmdgpejedbkkdaaGreatDoor
section
open Go.RowKit
open Q6
def behB (l : List UInt8) (k : Nat) (t : List UInt8) : Bool := decide (k = 0) || has t (l.getD (k - 1) 0)
theorem beh_space (l : List UInt8) (k : Nat) : behB l k [32] = decide (prevB l k = 32) := by
 unfold behB prevB has
 by_cases h : k = 0
 ·rw [if_pos h, decide_eq_true h]; rfl
 ·rw [if_neg h, decide_eq_false h, Bool.false_or, decide_eq_decide]
  simp only [List.mem_cons, List.not_mem_nil, or_false]
theorem beh_opens (l : List UInt8) (k : Nat) : behB l k [32, 91, 123, 44] = opens (prevB l k) := by
 unfold behB prevB has opens
 by_cases h : k = 0
 ·rw [if_pos h, decide_eq_true h]; rfl
 ·rw [if_neg h, decide_eq_false h, Bool.false_or]
  generalize l.getD (k - 1) 0 = c
  simp only [List.mem_cons, List.not_mem_nil, or_false, Bool.decide_or, Bool.or_assoc]
theorem behind_any (s t : ByteArray) (k : Nat) (w : World) (hs : s.size ≤ 100000) (hk : k < s.size) (b : Bool) (h : behB s.data.toList k t.data.toList = b) :
  Calls Tryz.prog 95 #[.string s, .int .i64 (k : Int), .string t] w fun e w' => e = .returned (.bool b) ∧ w = w' := by
 have HB := hid h
 clear h
 by_cases h0 : k = 0
 ·subst h0
  have H : Hid (b = true) := hid (by rw [← HB.out]; rfl)
  go_enter Tryz.func95, Tryz.ntmps95
  go_wp2
  go_ret
  exact ⟨ret_b H.out.symm, rfl⟩
 ·obtain ⟨j, rfl⟩ : ∃ j, k = j + 1 := ⟨k - 1, by omega⟩
  have hj : j < s.size := by omega
  have hjz : (j : Int) < (s.size : Int) := by omega
  have hg : s.data.toList.getD j 0 = s[j]'hj := getd s j hj
  obtain ⟨c, hc⟩ : ∃ c, s[j]'hj = c := ⟨_, rfl⟩
  rw [hc] at hg
  have H : Hid (has t.data.toList c = b) := hid (by
   rw [← HB.out]; unfold behB
   rw [decide_eq_false (by omega : ¬ j + 1 = 0), Bool.false_or, Nat.add_sub_cancel, hg])
  have HI := hid (index_has t.data.toList c)
  have hcc : ((c.toNat : Int)).toNat.toUInt8 = c := by simp
  have hX := Tryz.strings_IndexByte t (c.toNat : Int)
  rw [hcc] at hX
  generalize Lib.indexByte t.data.toList c = x at *
  have HX := hid hX
  clear hcc hg hX
  have kz : ((j + 1 : Nat) : Int) = (j : Int) + 1 := by omega
  rw [kz]
  have e1 : ((j : Int) + 1 == 0) = false := beq_eq_false_iff_ne.2 (by omega)
  have e2 : IntKind.i64.wrap ((j : Int) + 1 - 1) = (j : Int) := by rw [Int.add_sub_cancel]; exact IntWalk.i64_in _ (by omega)
  clear kz h0 hk
  go_enter Tryz.func95, Tryz.ntmps95
  go_wp2_with (go_at_call 61; refine (HX.out _).mono ?_; rintro e w' ⟨rfl, hw⟩; subst hw)
  go_ret
  exact ⟨ret_b (HI.out.trans H.out), rfl⟩
theorem behind_space (s : ByteArray) (k : Nat) (w : World) (hs : s.size ≤ 100000) (hk : k < s.size) (b : Bool) (h : decide (prevB s.data.toList k = 32) = b) :
  Calls Tryz.prog 95 #[.string s, .int .i64 (k : Int), .string ⟨#[32]⟩] w fun e w' => e = .returned (.bool b) ∧ w = w' :=
 behind_any s _ k w hs hk b ((beh_space _ _).trans h)
theorem behind_opens (s : ByteArray) (k : Nat) (w : World) (hs : s.size ≤ 100000) (hk : k < s.size) (b : Bool) (h : opens (prevB s.data.toList k) = b) :
  Calls Tryz.prog 95 #[.string s, .int .i64 (k : Int), .string ⟨#[32, 91, 123, 44]⟩] w fun e w' => e = .returned (.bool b) ∧ w = w' :=
 behind_any s _ k w hs hk b ((beh_opens _ _).trans h)
theorem marker_any (s : ByteArray) (b : Bool) (w : World) (h : marker s.data.toList = b) :
  Calls Tryz.prog 71 #[.string s] w fun e w' => e = .returned (.bool b) ∧ w = w' := by
 have H := hid h
 clear h
 unfold marker at H
 by_cases h1 : s.data.toList = [45, 45, 45]
 ·obtain rfl := bytes_of (l := #[45, 45, 45]) h1
  have H2 : Hid (b = true) := hid (by rw [← H.out]; rfl)
  clear h1 H
  go_enter Tryz.func71, Tryz.ntmps71
  go_wp2
  go_ret
  exact ⟨ret_b H2.out.symm, rfl⟩
 by_cases h2 : s.data.toList = [46, 46, 46]
 ·obtain rfl := bytes_of (l := #[46, 46, 46]) h2
  have H2 : Hid (b = true) := hid (by rw [← H.out]; rfl)
  clear h1 h2 H
  go_enter Tryz.func71, Tryz.ntmps71
  go_wp2
  go_ret
  exact ⟨ret_b H2.out.symm, rfl⟩
 have b1 : (s.toList == [45, 45, 45]) = false := by rw [ByteArray.toList_eq]; exact beq_eq_false_iff_ne.2 h1
 have b2 : (s.toList == [46, 46, 46]) = false := by rw [ByteArray.toList_eq]; exact beq_eq_false_iff_ne.2 h2
 have H2 : Hid (b = false) := hid (by rw [← H.out, decide_eq_false h1, decide_eq_false h2]; rfl)
 clear h1 h2 H
 go_enter Tryz.func71, Tryz.ntmps71
 go_wp2
 go_ret
 exact ⟨ret_b H2.out.symm, rfl⟩
end
section
open Go.RowKit Go.Sort
open Q6
theorem wp_scope_from {P : Program} {a : Act} {w : World} {Q : Exit → Act → World → Prop} {r1 T : Code} (l : Nat) (J : Act → World → Prop) (μ : Act → World → Nat)
  (h1 : findLabel r1 l = none)
  (first : r1.wp P (fun e a'' w'' => e = .normal ∧ J a'' w'') a w)
  (pass : ∀ a w, J a w → ∀ K : Act → World → Prop, (∀ a' w', J a' w' → μ a' w' < μ a w → K a' w') → T.wp P (Exit.jump l K Q) a w) :
  (Code.scope (.seq r1 (.seq (.label l) T))).wp P Q a w := by
 refine wp_scope_jumps (rest := .seq .skip T) l J μ ?_ ?_ ?_
 ·simp [findLabel, h1]
 ·refine wp_seq (wp_mono first ?_)
  rintro e a'' w'' ⟨rfl, hJ⟩
  exact wp_seq (wp_label (pass a'' w'' hJ J fun a' w' h _ => h))
 ·intro a w hJ
  exact wp_seq (wp_skip (pass a w hJ _ fun a' w' h1 h2 => ⟨h1, h2⟩))
def conX (o : Option Nat) : Int := match o with | some e => (e : Int) | none => 0
def conB (o : Option Nat) : Bool := o.isSome
theorem ret_ib {a b : Int} {c d : Bool} (h : a = b) (g : c = d) : Ending.returned (.tuple #[.int .i64 a, .bool c]) = .returned (.tuple #[.int .i64 b, .bool d]) := by rw [h, g]
def CJ (s : ByteArray) (w0 : World) (R : Option Nat) (a : Act) (w : World) : Prop :=
 ∃ (k : Nat) (u1 u2 u3 u5 u6 u7 u8 u9 u10 u11 u12 u13 u14 u15 u16 u17 u18 u19 u20 u21 u22 u23 u24 u25 u26 u27 u28 u29 u30 u31 u32 u33 u34 u35 u36 u37 u38 u39 u40 u41 u42 : Value), k ≤ s.size ∧ a = { tmps := #[.string s, u1, u2, u3, .int .i64 (k : Int), u5, u6, u7, u8, u9, u10, u11, u12, u13, u14, u15, u16, u17, u18, u19, u20, u21, u22, u23, u24, u25, u26, u27, u28, u29, u30, u31, u32, u33, u34, u35, u36, u37, u38, u39, u40, u41, u42], defers := [] } ∧ Below w0.heap.size w0 w ∧ Hid (conE s.data.toList k = R)
def Cm (n : Nat) (a : Act) (_ : World) : Nat := n - (intOf (a.tmps.getD 4 undef)).toNat
theorem begK_none {l : List UInt8} {k : Nat} {c : UInt8} (hc : l.getD k 0 = c) (h1 : c ≠ 35) (h2 : c ≠ 34) (h3 : c ≠ 39) : begK l k = 0 := by
 unfold begK
 rw [hc, if_neg (fun h => h1 h.1), if_neg (fun h => h.1.elim h2 h3)]
theorem begK_mark {l : List UInt8} {k : Nat} (hc : l.getD k 0 = 35) : begK l k = if prevB l k = 32 then 2 else 0 := by
 unfold begK
 by_cases h : prevB l k = 32
 ·rw [if_pos ⟨hc, h⟩, if_pos h]
 ·rw [if_neg (fun e => h e.2), if_neg h, hc, if_neg (fun e => e.1.elim (by decide) (by decide))]
theorem begK_quote {l : List UInt8} {k : Nat} (hc : l.getD k 0 = 34 ∨ l.getD k 0 = 39) : begK l k = if opens (prevB l k) = true then 1 else 0 := by
 unfold begK
 have hn : l.getD k 0 ≠ 35 := by
  rcases hc with h | h
  ·rw [h]; decide
  ·rw [h]; decide
 rw [if_neg (fun e => hn e.1)]
 by_cases h : opens (prevB l k) = true
 ·rw [if_pos ⟨hc, h⟩, if_pos h]
 ·rw [if_neg (fun e => h e.2), if_neg h]
theorem contentEnd_any (s : ByteArray) (w : World) (hs : s.size ≤ 100000) (x : Int) (b : Bool) (hx : conX (conE s.data.toList 0) = x) (hb : conB (conE s.data.toList 0) = b) :
  Calls Tryz.prog 68 #[.string s] w fun e w' => e = .returned (.tuple #[.int .i64 x, .bool b]) ∧ Below w.heap.size w w' := by
 obtain ⟨R, hR⟩ : ∃ R, conE s.data.toList 0 = R := ⟨_, rfl⟩
 rw [hR] at hx hb
 have HOUT : Hid (conX R = x ∧ conB R = b) := hid ⟨hx, hb⟩
 have HR0 := hid hR
 clear hx hb hR
 have HLEN := hid (len_eq s)
 obtain ⟨n, hn⟩ : ∃ n, s.size = n := ⟨_, rfl⟩
 have hsn : n ≤ 100000 := by omega
 go_enter Tryz.func68, Tryz.ntmps68
 go_wp2
 refine wp_scope_from 0 (CJ s w R) (Cm n) rfl ?first ?pass
 case first =>
  go_wp2
  exact ⟨0, _, _, _, _, _, _, _, _, _, _, _, _, _, _, _, _, _, _, _, _, _, _, _, _, _, _, _, _, _, _, _, _, _, _, _, _, _, _, _, _, _, Nat.zero_le _, rfl, Below.refl _ _, HR0⟩
 case pass =>
  intro a wr hJ K hK
  obtain ⟨k0, u1, u2, u3, u5, u6, u7, u8, u9, u10, u11, u12, u13, u14, u15, u16, u17, u18, u19, u20, u21, u22, u23, u24, u25, u26, u27, u28, u29, u30, u31, u32, u33, u34, u35, u36, u37, u38, u39, u40, u41, u42, hk0, rfl, hbel, HRk⟩ := hJ
  have HB := hid hbel
  have HK := hid hK
  clear hbel hK HR0
  rw [hn] at hk0
  go_wp2
  go_loop [5] (fun i => ∃ k : Nat, k0 ≤ k ∧ k ≤ n ∧ i = .int .i64 (k : Int) ∧ Hid (conE s.data.toList k = R)) (fun i => n - (intOf i).toNat)
  case atStart => exact ⟨k0, Nat.le_refl _, hk0, rfl, HRk⟩
  case round =>
   clear HRk
   obtain ⟨k, hk0k, hk, rfl, HR⟩ := hrel
   by_cases hlt : k < n
   ·have hks : k < s.size := by omega
    have hkl : k < s.data.toList.length := by rw [HLEN.out]; exact hks
    have hskz : (k : Int) < (n : Int) := by omega
    have hg : s.data.toList.getD k 0 = s[k]'hks := getd s k hks
    obtain ⟨c, hc⟩ : ∃ c, s[k]'hks = c := ⟨_, rfl⟩
    rw [hc] at hg
    have HG := hid hg
    have HKL := hid hkl
    clear hg hkl
    have kw : IntKind.i64.wrap ((k : Int) + 1) = (k : Int) + 1 := IntWalk.i64_in _ (by omega)
    by_cases h35 : c = 35
    ·have m35 : ((c.toNat : Int) == 35) = true := by rw [isC_beq 35 c 35 rfl, isC_iff.2 h35]
     have HBK := hid (begK_mark (HG.out.trans h35))
     by_cases hp : prevB s.data.toList k = 32
     ·have HC := hid (fun w0 => behind_space s k w0 hs hks true (decide_eq_true hp))
      have HE := hid (HR.out.symm.trans (conE_mark HKL.out (HBK.out.trans (if_pos hp))))
      clear h35 hp
      go_wp2_with (go_at_call 95; refine (HC.out _).mono ?_; rintro e w' ⟨rfl, rfl⟩)
      simp only [Exit.jump]
      go_ret2
      exact ⟨ret_ib (by rw [← HOUT.out.1, HE.out]; rfl) (by rw [← HOUT.out.2, HE.out]; rfl), HB.out⟩
     ·have HC := hid (fun w0 => behind_space s k w0 hs hks false (decide_eq_false hp))
      have HN := hid ((conE_next HKL.out (HBK.out.trans (if_neg hp))).symm.trans HR.out)
      clear h35 hp
      go_wp2_with (go_at_call 95; refine (HC.out _).mono ?_; rintro e w' ⟨rfl, rfl⟩)
      go_round
      case rel => exact ⟨k + 1, by omega, by omega, by go_num, HN⟩
      case measure => simp [intOf]; omega
    have m35 : ((c.toNat : Int) == 35) = false := by rw [isC_beq 35 c 35 rfl]; exact Bool.eq_false_iff.2 (fun e => h35 (isC_iff.1 e))
    by_cases hq : c = 34 ∨ c = 39
    ·have hmm : (((c.toNat : Int) == 34) = true) ∨ (((c.toNat : Int) == 34) = false ∧ ((c.toNat : Int) == 39) = true) := by
      rcases hq with h | h
      ·left; rw [isC_beq 34 c 34 rfl, isC_iff.2 h]
      ·right; refine ⟨?_, by rw [isC_beq 39 c 39 rfl, isC_iff.2 h]⟩
       rw [isC_beq 34 c 34 rfl]; exact Bool.eq_false_iff.2 (fun e => by have := isC_iff.1 e; rw [h] at this; exact absurd this (by decide))
     have HBK := hid (begK_quote (l := s.data.toList) (k := k) (by rw [HG.out]; exact hq))
     rcases Bool.eq_false_or_eq_true (opens (prevB s.data.toList k)) with hp | hp
     ·have HC := hid (fun w0 => behind_opens s k w0 hs hks true hp)
      have hbk : begK s.data.toList k = 1 := HBK.out.trans (if_pos hp)
      rcases scanE_cases s.data.toList k with hse | ⟨v, m, hse, hv, hm, hkm, hml⟩
      ·have HE := hid (HR.out.symm.trans (conE_bad HKL.out hbk hse))
       obtain ⟨q, hqq⟩ : ∃ q : ByteArray, scanV s.data.toList (k : Int) = q.data.toList := ⟨⟨(scanV s.data.toList (k : Int)).toArray⟩, by simp⟩
       obtain ⟨X, hX⟩ : ∃ X, scanN s.data.toList (k : Int) = X := ⟨_, rfl⟩
       obtain ⟨Y, hY⟩ : ∃ Y, scanE s.data.toList (k : Int) = Y := ⟨_, rfl⟩
       have HSC := hid (fun w0 => Scan_any s (k : Int) w0 (by omega) (by omega) (by omega) q X Y hqq hX hY)
       have y0 : (Y != 0) = true := bne_iff_ne.2 (by rw [← hY]; exact hse)
       clear h35 hp hq hse hqq hX hY hbk
       rcases hmm with m34 | ⟨m34, m39⟩
       all_goals
        go_wp2_with fail
        refine (HC.out _).mono ?_
        rintro e w' ⟨rfl, rfl⟩
        go_wp2_with fail
        refine (HSC.out _).mono ?_
        rintro e w2 ⟨rfl, hb2⟩
        go_wp2
        simp only [Exit.jump]
        go_ret2
        exact ⟨ret_ib (by rw [← HOUT.out.1, HE.out]; rfl) (by rw [← HOUT.out.2, HE.out]; rfl), HB.out.trans (hb2.mono HB.out.size)⟩
      ·have HN := hid ((conE_quote HKL.out hbk hse hm hkm).symm.trans HR.out)
       obtain ⟨q, hqq⟩ : ∃ q : ByteArray, scanV s.data.toList (k : Int) = q.data.toList := ⟨⟨(scanV s.data.toList (k : Int)).toArray⟩, by simp⟩
       have HSC := hid (fun w0 => Scan_any s (k : Int) w0 (by omega) (by omega) (by omega) q (m : Int) 0 hqq hm hse)
       have hmn : m ≤ n := by rw [HLEN.out, hn] at hml; exact hml
       clear h35 hp hq hse hqq hm hbk hv hml
       rcases hmm with m34 | ⟨m34, m39⟩
       all_goals
        go_wp2_with fail
        refine (HC.out _).mono ?_
        rintro e w' ⟨rfl, rfl⟩
        go_wp2_with fail
        refine (HSC.out _).mono ?_
        rintro e w2 ⟨rfl, hb2⟩
        go_wp2
        go_step3
        refine ⟨rfl, HK.out _ _ ⟨m, _, _, _, _, _, _, _, _, _, _, _, _, _, _, _, _, _, _, _, _, _, _, _, _, _, _, _, _, _, _, _, _, _, _, _, _, _, _, _, _, _, by rw [hn]; exact hmn, rfl, HB.out.trans (hb2.mono HB.out.size), HN⟩ ?_⟩
        simp [Cm, intOf]; omega
     ·have HC := hid (fun w0 => behind_opens s k w0 hs hks false hp)
      have HN := hid ((conE_next HKL.out (HBK.out.trans (if_neg (by rw [hp]; decide)))).symm.trans HR.out)
      clear h35 hp hq
      rcases hmm with m34 | ⟨m34, m39⟩
      all_goals
       go_wp2_with (go_at_call 95; refine (HC.out _).mono ?_; rintro e w' ⟨rfl, rfl⟩)
       go_round
       case rel => exact ⟨k + 1, by omega, by omega, by go_num, HN⟩
       case measure => simp [intOf]; omega
    ·have m34 : ((c.toNat : Int) == 34) = false := by rw [isC_beq 34 c 34 rfl]; exact Bool.eq_false_iff.2 (fun e => hq (.inl (isC_iff.1 e)))
     have m39 : ((c.toNat : Int) == 39) = false := by rw [isC_beq 39 c 39 rfl]; exact Bool.eq_false_iff.2 (fun e => hq (.inr (isC_iff.1 e)))
     have HN := hid ((conE_next HKL.out (begK_none HG.out h35 (fun e => hq (.inl e)) (fun e => hq (.inr e)))).symm.trans HR.out)
     clear h35 hq
     go_wp2
     go_round
     case rel => exact ⟨k + 1, by omega, by omega, by go_num, HN⟩
     case measure => simp [intOf]; omega
   ·obtain rfl : k = n := by omega
    have HE := hid (HR.out.symm.trans (conE_out (by rw [HLEN.out, hn]; exact Nat.le_refl _)))
    go_wp2
    simp only [Exit.jump]
    go_ret2
    exact ⟨ret_ib (by rw [← HOUT.out.1, HE.out, HLEN.out, hn]; rfl) (by rw [← HOUT.out.2, HE.out]; rfl), HB.out⟩
end
end Go.Proofs.YtmdgpejedbkkdaaGreatDoor
