/- RefSplit, NdRow, FloStep, RefCut, RefBlo5, PrgCut, RefBlo9 -/
import Derived.BigRegion
import Derived.ChangeAlike
import Derived.Deep.CutRange
import Derived.Deep.LoopGhost
import Derived.Deep.RegionHeld3
import Derived.Deep.RegionLaw
import Derived.Laws.AppendOwnNone
import Derived.Lib.BufferMore
import Derived.Lib.OwnBridge
import Derived.Lib.SliceRun
import Derived.Maps.AppendAt
import Derived.RegionTactic
import Derived.Test.YtecglpocmhkkiaaGreatDoorET12
import Derived.Test.YtecglpocmhkkiaaGreatDoorET14
import Derived.Test.YtecglpocmhkkiaaGreatDoorET16
import Derived.Test.YtecglpocmhkkiaaGreatDoorET18
import Derived.Test.YtecglpocmhkkiaaGreatDoorET19
import Derived.Test.YtecglpocmhkkiaaGreatDoorET20
import Derived.Test.YtecglpocmhkkiaaGreatDoorET21
import Derived.Test.YtecglpocmhkkiaaGreatDoorET3
import Derived.Test.YtecglpocmhkkiaaGreatDoorET4
import Derived.Test.YtecglpocmhkkiaaGreatDoorET5
set_option linter.unusedVariables false
set_option linter.unusedSimpArgs false
set_option maxRecDepth 100000
set_option maxHeartbeats 16000000
open Go.Lib (hid)
namespace Go.Proofs.YtecglpocmhkkiaaGreatDoor
section
open Go.RowKit Go.Sort
open Q6
theorem from_data (s : ByteArray) (k : Nat) : (s.extract k s.size).data.toList = s.data.toList.drop k := by rw [Lib.extract_from]
end
section
open Go.RowKit Go.Sort
open Nw N8 Go.ChangeShapes Go.WideShapes
structure Q4 where
 a : Value
 b : Value
 c : Value
 d : Value
def flat4 : List Q4 → List Value
 | [] => []
 | q :: l => q.a :: q.b :: q.c :: q.d :: flat4 l
theorem flat4_len : ∀ (l : List Q4), (flat4 l).length = l.length * 4
 | [] => rfl
 | q :: l => by
  rw [flat4]
  simp only [List.length_cons, flat4_len l]; omega
theorem flat4_app : ∀ (l m : List Q4), flat4 (l ++ m) = flat4 l ++ flat4 m
 | [], m => rfl
 | q :: l, m => by rw [List.cons_append, flat4, flat4, flat4_app l m]; rfl
theorem flat4_get : ∀ (l : List Q4) (j : Nat) (h : j < l.length), (flat4 l)[j * 4]? = some (l[j]'h).a ∧ (flat4 l)[j * 4 + 1]? = some (l[j]'h).b ∧ (flat4 l)[j * 4 + 2]? = some (l[j]'h).c ∧ (flat4 l)[j * 4 + 3]? = some (l[j]'h).d
 | q :: l, 0, _ => ⟨rfl, rfl, rfl, rfl⟩
 | q :: l, j + 1, h => by
  have := flat4_get l j (Nat.lt_of_succ_lt_succ h)
  rw [flat4, show (j + 1) * 4 = j * 4 + 4 by omega]
  exact this
theorem flat4_inv : ∀ (l : List Q4) (i : Nat) (u : Value), (flat4 l)[i]? = some u → ∃ (j : Nat) (h : j < l.length), (i = j * 4 ∧ u = (l[j]'h).a) ∨ (i = j * 4 + 1 ∧ u = (l[j]'h).b) ∨ (i = j * 4 + 2 ∧ u = (l[j]'h).c) ∨ (i = j * 4 + 3 ∧ u = (l[j]'h).d)
 | [], i, u, h => by cases h
 | p :: l, 0, u, h => ⟨0, Nat.succ_pos _, .inl ⟨rfl, by injection h with h; exact h.symm⟩⟩
 | p :: l, 1, u, h => ⟨0, Nat.succ_pos _, .inr (.inl ⟨rfl, by injection h with h; exact h.symm⟩)⟩
 | p :: l, 2, u, h => ⟨0, Nat.succ_pos _, .inr (.inr (.inl ⟨rfl, by injection h with h; exact h.symm⟩))⟩
 | p :: l, 3, u, h => ⟨0, Nat.succ_pos _, .inr (.inr (.inr ⟨rfl, by injection h with h; exact h.symm⟩))⟩
 | p :: l, i + 4, u, h => by
  obtain ⟨j, hj, hc⟩ := flat4_inv l i u h
  refine ⟨j + 1, Nat.succ_lt_succ hj, ?_⟩
  rcases hc with ⟨rfl, e⟩ | ⟨rfl, e⟩ | ⟨rfl, e⟩ | ⟨rfl, e⟩
  ·exact .inl ⟨by omega, e⟩
  ·exact .inr (.inl ⟨by omega, e⟩)
  ·exact .inr (.inr (.inl ⟨by omega, e⟩))
  ·exact .inr (.inr (.inr ⟨by omega, e⟩))
def NdQ (S : Nat → Prop) (w : World) (d : Nd) (q : Q4) : Prop := NdC S w d q.a q.b q.c q.d
theorem NdC.cellsOk {S : Nat → Prop} {w : World} {d : Nd} {c0 c1 c2 c3 : Value} (h : NdC S w d c0 c1 c2 c3) :
  ∃ (k : Int) (s : ByteArray) (a : Option Addr) (n c : Nat) (A : Option Addr) (m q : Nat), c0 = .int .i64 k ∧ c1 = .string s ∧ c2 = .slice a n c ∧ c3 = .slice A m q := by
 cases d with
 | mk k t ks ds =>
  rw [NdC] at h
  obtain ⟨h0, h1, ⟨a, c, h4, _⟩, A, cap, h3, _⟩ := h
  exact ⟨k, _, a, _, c, A, _, cap, h0, h1, h4, h3⟩
theorem NdQ.one {S : Nat → Prop} {w : World} {d : Nd} {q : Q4} (h : NdQ S w d q) : q.a.oneCell' = true ∧ q.b.oneCell' = true ∧ q.c.oneCell' = true ∧ q.d.oneCell' = true := by
 obtain ⟨k, s, a, n, c, A, m, r, h0, h1, h2, h3⟩ := NdC.cellsOk h
 rw [h0, h1, h2, h3]
 exact ⟨rfl, rfl, rfl, rfl⟩
theorem flat4_one {S : Nat → Prop} {w : World} {ds : List Nd} {qs : List Q4} (hl : qs.length = ds.length) (h : ∀ (j : Nat) (h : j < qs.length) (g : j < ds.length), NdQ S w (ds[j]'g) (qs[j]'h)) : ∀ u ∈ flat4 qs, u.oneCell' = true := by
 intro u hu
 obtain ⟨i, hi, e⟩ := List.mem_iff_getElem.1 hu
 obtain ⟨j, hj, hc⟩ := flat4_inv qs i u (by rw [List.getElem?_eq_getElem hi, e])
 obtain ⟨o0, o1, o2, o3⟩ := (h j hj (by omega)).one
 rcases hc with ⟨-, e⟩ | ⟨-, e⟩ | ⟨-, e⟩ | ⟨-, e⟩ <;> rw [e] <;> assumption
def KdS (S : Nat → Prop) (w : World) (v : Value) (ds : List Nd) : Prop :=
 ∃ (A : Option Addr) (cap : Nat), v = .slice A ds.length cap ∧ ds.length ≤ cap ∧ cap ≤ maxLen ∧ (A = none → cap = 0) ∧ NdK S w ds A 0
def KO (S : Nat → Prop) (base : Nat) (w : World) (v : Value) (qs : List Q4) (ds : List Nd) : Prop :=
 w.ownsRow base 26 4 v ds.length (flat4 qs) ∧ qs.length = ds.length ∧ ∀ (j : Nat) (h : j < qs.length) (g : j < ds.length), NdQ S w (ds[j]'g) (qs[j]'h)
theorem owns_keep {w w' : World} {base n size : Nat} {e : TypeId} {v : Value} {xs : List Value} (h : w.ownsRow base e size v n xs) (hr : ∀ g, v.ownBlock = some g → w'.heap[g]? = w.heap[g]?) : w'.ownsRow base e size v n xs := by
 refine ⟨h.1, ?_⟩
 rcases h.2 with h0 | ⟨g, cap, cur, h1, h2, h3, h4⟩
 ·exact .inl h0
 ·exact .inr ⟨g, cap, cur, h1, h2, (hr g (by rw [h1]; rfl)).trans h3, h4⟩
theorem owns_low {w : World} {base base' n size : Nat} {e : TypeId} {v : Value} {xs : List Value} (h : w.ownsRow base e size v n xs) (hb : base' ≤ base) : w.ownsRow base' e size v n xs := by
 refine ⟨h.1, ?_⟩
 rcases h.2 with h0 | ⟨g, cap, cur, h0, hg, r⟩
 ·exact .inl h0
 ·exact .inr ⟨g, cap, cur, h0, Nat.le_trans hb hg, r⟩
theorem owns_apart {w : World} {base base' n n' size size' : Nat} {e e' : TypeId} {v v' : Value} {xs xs' : List Value} (h : w.ownsRow base e size v n xs) (h' : w.ownsRow base' e' size' v' n' xs') (hne : e ≠ e') {g : Nat} (hg : v.ownBlock = some g) : v'.ownBlock ≠ some g := by
 intro hg'
 rcases h.2 with ⟨h0, _⟩ | ⟨g1, cap, cur, h1, h2, h3, h4⟩
 ·rw [h0] at hg; cases hg
 ·rcases h'.2 with ⟨h0, _⟩ | ⟨g2, cap', cur', k1, k2, k3, k4⟩
  ·rw [h0] at hg'; cases hg'
  ·rw [h1] at hg
   rw [k1] at hg'
   have e1 : g1 = g := by injection hg
   have e2 : g2 = g := by injection hg'
   subst e1; subst e2
   rw [h3] at k3
   injection k3 with k3
   injection k3 with _ k3 _
   exact hne k3
theorem KO.keep {S T : Nat → Prop} {base : Nat} {w w' : World} {v : Value} {qs : List Q4} {ds : List Nd} (h : KO S base w v qs ds) (hk : ∀ b, S b → T b ∧ w'.heap[b]? = w.heap[b]?) (hr : ∀ g, v.ownBlock = some g → w'.heap[g]? = w.heap[g]?) : KO T base w' v qs ds :=
 ⟨owns_keep h.1 hr, h.2.1, fun j hj g => NdC.keep hk _ (h.2.2 j hj g)⟩
theorem KO.below {S : Nat → Prop} {base : Nat} {w w' : World} {v : Value} {qs : List Q4} {ds : List Nd} (h : KO S base w v qs ds) (hS : ∀ b, S b → b < w.heap.size) (hb : Below w.heap.size w w') : KO S base w' v qs ds :=
 h.keep (fun b hs => ⟨hs, hb.block b (hS b hs)⟩) fun g hg => hb.block g (h.1.lt g hg).2
theorem infoN0 : (Tryz.prog.info? 26).map (fun i => (i.zero, i.size, i.bytes)) = some (some (.agg #[.int .i64 0, .string ⟨#[]⟩, .slice none 0 0, .slice none 0 0]), 4, 72) := by kernel_rfl
theorem infoN : ∃ i, Tryz.prog.info? 26 = some i ∧ i.zero = some (.agg #[.int .i64 0, .string ⟨#[]⟩, .slice none 0 0, .slice none 0 0]) ∧ i.size = 4 ∧ i.bytes = 72 := by
 have h := infoN0
 cases hi : Tryz.prog.info? 26 with
 | none => rw [hi] at h; cases h
 | some i =>
  rw [hi] at h
  simp only [Option.map_some, Option.some.injEq, Prod.mk.injEq] at h
  exact ⟨i, rfl, h.1, h.2.1, h.2.2⟩
theorem cells_alloc {w : World} {o : Obj} {p : Addr} {v : Value} (h : w.cell? p = some v) : (w.alloc o).cell? p = some v :=
 (World.cell?_of_block (Below.heap_alloc w o p.block (cell_lt h))).trans h
theorem one_str (x : ByteArray) : ∀ u ∈ [Value.string x], u.oneCell' = true := by
 intro u hu
 rw [List.mem_singleton] at hu
 subst hu; rfl
theorem four_nd (k : Int) (s : ByteArray) (a : Option Addr) (n c : Nat) (A : Option Addr) (m q : Nat) : ∀ u ∈ [Value.int .i64 k, .string s, .slice a n c, .slice A m q], u.oneCell' = true := by
 intro u hu
 simp only [List.mem_cons, List.not_mem_nil, or_false] at hu
 rcases hu with rfl | rfl | rfl | rfl <;> rfl
theorem cell_grown {w w' : World} {row : Option Nat} {p : Addr} {v : Value} (h : w.cell? p = some v) (hg : w.grownBy w' row) (hne : row ≠ some p.block) : w'.cell? p = some v := hg.cell h fun e => hne e.symm
theorem news_blk {w : World} {B : Nat} (cs : Array Value) {t : TypeId} (hb : w.heap[B]? = some (.cells cs t (0, 0))) : ∀ j u, cs.toList[j]? = some u → w.cell? ((⟨B, 0, none⟩ : Addr).add j) = some u := by
 intro j u h
 rw [add_plain, Nat.zero_add, cell_of_row _ _ j cs t (0, 0) hb]
 simpa using h
theorem alloc_at (w : World) (o : Obj) : (w.alloc o).heap[w.heap.size]? = some o := heap_alloc_new w o
theorem alloc_at1 (w : World) (o p : Obj) : ((w.alloc p).alloc o).heap[w.heap.size + 1]? = some o := by
 have := heap_alloc_new (w.alloc p) o
 rwa [show (w.alloc p).heap.size = w.heap.size + 1 by simp] at this
theorem alloc_at0 (w : World) (o p : Obj) : ((w.alloc o).alloc p).heap[w.heap.size]? = some o := (Below.heap_alloc (w.alloc o) p w.heap.size (by simp)).trans (heap_alloc_new w o)
theorem set_oth (w : World) (p : Addr) (v : Value) (b : Nat) (hb : b ≠ p.block) : (w.setCell p v).heap[b]? = w.heap[b]? := Below.heap_setCell _ _ _ _ hb
theorem cell_set {w : World} {p r : Addr} {u x : Value} (h : w.cell? p = some u) (hp : p.block ≠ r.block) : (w.setCell r x).cell? p = some u := (World.cell?_of_block (set_oth _ _ _ _ hp)).trans h
theorem frozen_grown {w w' : World} {row : Option Nat} {p : Addr} (h : w.frozen? p = false) (hg : w.grownBy w' row) (hlt : p.block < w.heap.size) (hne : row ≠ some p.block) : w'.frozen? p = false :=
 (World.frozen?_of_block (hg.block p.block hlt fun e => hne e.symm)).trans h
theorem own_shape {w : World} {base n size : Nat} {e : TypeId} {v : Value} {xs : List Value} (h : w.ownsRow base e size v n xs) : ∃ a c, v = .slice a n c := by
 rcases h.2 with ⟨h0, h1⟩ | ⟨g, cap, cur, h0, _⟩
 ·subst h1; exact ⟨_, _, h0⟩
 ·exact ⟨_, _, h0⟩
theorem frozen_alloc {w : World} {o : Obj} {p : Addr} (h : w.frozen? p = false) (hlt : p.block < w.heap.size) : (w.alloc o).frozen? p = false :=
 (World.frozen?_of_block (Below.heap_alloc w o p.block hlt)).trans h
theorem KO.kdS {S T : Nat → Prop} {base : Nat} {w : World} {v : Value} {qs : List Q4} {ds : List Nd} (h : KO S base w v qs ds) (hT : ∀ b, S b → T b) (hv : ∀ b, v.ownBlock = some b → T b) : KdS T w v ds := by
 rcases h.1.2 with ⟨h0, hn⟩ | ⟨g, cap, cur, h1, h2, h3, h4, h5, h6, h7⟩
 ·obtain rfl : ds = [] := List.length_eq_zero_iff.1 hn
  exact ⟨none, 0, h0, Nat.le_refl _, Nat.zero_le _, fun _ => rfl, by rw [NdK]; trivial⟩
 ·subst h1
  refine ⟨some ⟨g, 0, none⟩, cap, rfl, h4, h5, fun h => (by cases h), ndK_of ds 0 fun j hj => ?_⟩
  have hq : j < qs.length := by rw [h.2.1]; exact hj
  obtain ⟨f0, f1, f2, f3⟩ := flat4_get qs j hq
  refine ⟨g, 0, _, _, _, _, rfl, hv g rfl, ?_, ?_, ?_, ?_, NdC.keep (fun b hs => ⟨hT b hs, rfl⟩) _ (h.2.2 j hq hj)⟩
  ·rw [Nat.zero_add, Nat.zero_add]; exact (h.1.cellAt (j * 4) (by omega)).trans f0
  ·rw [Nat.zero_add, Nat.zero_add]; exact (h.1.cellAt (j * 4 + 1) (by omega)).trans f1
  ·rw [Nat.zero_add, Nat.zero_add]; exact (h.1.cellAt (j * 4 + 2) (by omega)).trans f2
  ·rw [Nat.zero_add, Nat.zero_add]; exact (h.1.cellAt (j * 4 + 3) (by omega)).trans f3
theorem KdS.kid {S : Nat → Prop} {w : World} {A : Option Addr} {n cap : Nat} {ds : List Nd} (h : KdS S w (.slice A n cap) ds) (j : Nat) (hj : j < ds.length) :
  ∃ (b o : Nat) (e0 e1 e2 e3 : Value), A = some ⟨b, o, none⟩ ∧ S b ∧ w.cell? ⟨b, o + j * 4, none⟩ = some e0 ∧ w.cell? ⟨b, o + j * 4 + 1, none⟩ = some e1 ∧
    w.cell? ⟨b, o + j * 4 + 2, none⟩ = some e2 ∧ w.cell? ⟨b, o + j * 4 + 3, none⟩ = some e3 ∧ NdC S w (ds[j]'hj) e0 e1 e2 e3 := by
 obtain ⟨A', cap', h1, -, -, -, h5⟩ := h
 have hAe : A = A' := by injection h1
 subst hAe
 have := NdK.at_ h5 j hj
 rw [Nat.zero_add] at this
 exact this
theorem rdS_of_owns {w : World} {base n : Nat} {e : TypeId} {v : Value} {l : List L8} (h : w.ownsRow base e 1 v n (l.map encStr)) (T : Nat → Prop) (hT : ∀ b, v.ownBlock = some b → T b) : RdS T w v l := by
 obtain ⟨a, cap, rfl, h1, h2, h3⟩ := rd_of_owns h
 refine ⟨a, cap, rfl, h1, h2, ?_⟩
 rcases h3 with h3 | ⟨b, o, rfl, h4, h5⟩
 ·exact .inl h3
 ·rcases h.2 with ⟨h0, _⟩ | ⟨g, cap', cur, h6, _⟩
  ·cases h0
  ·injection h6 with h6 _ _
   injection h6 with h6
   injection h6 with h6 h7 _
   subst h6; subst h7
   exact .inr ⟨b, 0, rfl, hT b rfl, h5⟩
theorem step_append_own_at {P : Program} {ops : Array Oper} {o : Oper} {a : Act} {w : World} {K : Act → World → Prop} {Q : Exit → Act → World → Prop} {E : Prop} (hg : o.guard = none) (s x : Operand) (t : TypeId)
  (ho : o.op = .call { callee := .builtin .append, args := #[s, x], argTypes := #[t, t] })
  (base : Nat) (e : TypeId) (i : TypeInfo) (z : Value) (size bytes : Nat) (ht : P.underlying t = some (.slice e)) (hi : P.info? e = some i) (hz : i.zero = some z)
  (hsize : i.size = size) (hby : i.bytes = bytes) (hzs : z.cells.size = size) (hsz : 0 < size)
  (v : Value) (n : Nat) (xs : List Value) (hs : a.eval s = v) (hown : w.ownsRow base e size v n xs)
  (ad : Addr) (m c : Nat) (news : List Value) (hx : a.eval x = .slice (some ad) m c) (hl : news.length = m * size) (hnews : ∀ j u, news[j]? = some u → w.cell? (ad.add j) = some u) (h1 : ∀ u ∈ news, u.oneCell' = true)
  (h63 : n + m ≤ maxLen) (hbytes : (n + m) * bytes ≤ 140737488355328) (hbase : base ≤ w.heap.size)
  (h : ∀ v' w', w'.ownsRow base e size v' (n + m) (xs ++ news) → w.grownBy w' v.ownBlock → (v'.ownBlock = v.ownBlock ∨ v'.ownBlock = some w.heap.size) → K (a.put o.dst v') w') :
  if Region.wanted o (yielded ops a.tmps) = true then Oper.wp P o a w K Q else E := by
 rw [if_pos (by simp [Region.wanted, hg])]
 obtain ⟨v', w', hr, h2, h3, h4, h5⟩ := run_append_own_at (P := P) w base t o.type e i z size bytes ht hi hz hsize hby hzs hsz v n xs hown ad m c news hl hnews h1 h63 hbytes hbase
 unfold Oper.wp execOp
 simp only [ho, resolve, invoke, builtin, Sem.run_bind, Sem.run_pure, Result.andThen_ok, List.map_toArray, List.map_cons, List.map_nil, hs, hx, hr]
 exact h v' w' h2 h3 h5
section
variable {S : Nat → Prop} {OUT : Nat} {G : World → Prop} {W0 W1 W2 wr : World} {k : Int} {T : ByteArray} {s7 s8 s' : Value} {l7 l' : List L8} {M : List Nd}
end
end
end Go.Proofs.YtecglpocmhkkiaaGreatDoor
namespace Go.Proofs.YtecglpocmhkkiaaGreatDoor
namespace F9
open Nw N8 Q6
theorem blk_idem (l : L8) : blk (l.drop (blk l)) = 0 := by
 induction l with
 | nil => rfl
 | cons c l ih =>
  by_cases hc : c = 32
  ·rw [blk_cons, if_pos hc]; exact ih
  ·rw [blk_no hc]; exact blk_no hc
def rowR (t : L8) : Option (Nd × Nat) := if (t.drop (blk t)).headD 0 = 93 then some (.mk 2 [] [] [], blk t + 1) else rowP t []
def prsR (t : L8) : Option (Nd × Nat) := if (t.drop (blk t)).headD 0 = 125 then some (.mk 3 [] [] [], blk t + 1) else prsP t [] []
theorem val_row (t : L8) : valP (91 :: t) = (rowR t).map (bump 1) := by
 rw [valP, if_pos rfl]
 unfold rowR
 split
 ·show some _ = some _
  simp only [bump]
  congr 2
  omega
 ·rfl
theorem val_prs (t : L8) : valP (123 :: t) = (prsR t).map (bump 1) := by
 rw [valP, if_neg (by decide), if_pos rfl]
 unfold prsR
 split
 ·show some _ = some _
  simp only [bump]
  congr 2
  omega
 ·rfl
theorem row_eq {d : Nd} {l : L8} {acc : List Nd} {m n : Nat} (h : valP (l.drop (blk l)) = some (d, m)) (hm : m ≠ 0) (hn : blk l + m + blk (l.drop (blk l + m)) = n) :
  rowP l acc = if (l.drop n).headD 0 = 93 then some (.mk 2 [] [] (acc ++ [d]), n + 1) else if (l.drop n).headD 0 = 44 then (rowP (l.drop (n + 1)) (acc ++ [d])).map (bump (n + 1)) else none := by
 subst hn
 rw [rowP, h]
 show (if m = 0 then none else _) = _
 rw [if_neg hm]
 split
 ·rename_i h9
  rw [h9]
  rfl
 ·rename_i c t h9
  have e : l.drop (blk l + m + blk (l.drop (blk l + m)) + 1) = t := by rw [← List.drop_drop, h9]; rfl
  rw [h9, e]
  rfl
theorem row_none {l : L8} {acc : List Nd} (h : valP (l.drop (blk l)) = none) : rowP l acc = none := by rw [rowP, h]
theorem row_zero {d : Nd} {l : L8} {acc : List Nd} (h : valP (l.drop (blk l)) = some (d, 0)) : rowP l acc = none := by rw [rowP, h]; exact if_pos rfl
theorem prs_none {l : L8} {ak : List L8} {ad : List Nd} (h : keyP (l.drop (blk l)) = none) : prsP l ak ad = none := by
 rw [prsP]
 split
 ·rfl
 ·rename_i h9; rw [h] at h9; cases h9
theorem prs_twice {l : L8} {ak : List L8} {ad : List Nd} {x : L8} {j : Nat} (h : keyP (l.drop (blk l)) = some (x, j)) (hx : x ∈ ak) : prsP l ak ad = none := by
 rw [prsP]
 split
 ·rfl
 ·rename_i h9
  rw [h] at h9
  injection h9 with h9
  injection h9 with h9 h10
  subst h9
  rw [if_pos hx]
theorem prs_noval {l : L8} {ak : List L8} {ad : List Nd} {x : L8} {j a : Nat} (h : keyP (l.drop (blk l)) = some (x, j)) (ha : blk l + j + blk (l.drop (blk l + j)) = a) (hv : valP (l.drop a) = none) : prsP l ak ad = none := by
 subst ha
 rw [prsP]
 split
 ·rfl
 ·rename_i h9
  rw [h] at h9
  injection h9 with h9
  injection h9 with h9 h10
  subst h9; subst h10
  rw [hv]
  split <;> rfl
theorem prs_eq {x : L8} {d : Nd} {l : L8} {ks : List L8} {ds : List Nd} {j a m n : Nat} (hk : keyP (l.drop (blk l)) = some (x, j)) (hx : x ∉ ks) (ha : blk l + j + blk (l.drop (blk l + j)) = a) (h : valP (l.drop a) = some (d, m)) (hn : a + m + blk (l.drop (a + m)) = n) :
  prsP l ks ds = if (l.drop n).headD 0 = 125 then some (.mk 3 [] (ks ++ [x]) (ds ++ [d]), n + 1) else if (l.drop n).headD 0 = 44 then (prsP (l.drop (n + 1)) (ks ++ [x]) (ds ++ [d])).map (bump (n + 1)) else none := by
 cases hd : l.drop n with
 | nil =>
  subst ha
  subst hn
  rw [prsP]
  split
  ·rfl
  ·rename_i x9 j9 h9
   rw [hk] at h9
   injection h9 with h9
   injection h9 with h9 h10
   subst h9; subst h10
   rw [if_neg hx, h]
   show (match _h : l.drop _ with | [] => none | c :: t => _) = _
   split
   ·rfl
   ·rename_i h9; rw [hd] at h9; cases h9
 | cons c t =>
  have e : l.drop (n + 1) = t := by rw [← List.drop_drop, hd]; rfl
  rw [prs_step hk hx ha h hn hd, e]
  rfl
end F9
end Go.Proofs.YtecglpocmhkkiaaGreatDoor
namespace Go.Proofs.YtecglpocmhkkiaaGreatDoor
section
open Go.RowKit Go.Sort
open Q6
def cutN (l : List UInt8) (k : Nat) : Nat := k + indN (l.drop k)
theorem cutN_le {l : List UInt8} {k : Nat} (h : k ≤ l.length) : cutN l k ≤ l.length := by
 unfold cutN
 have := indN_le (l.drop k)
 rw [List.length_drop] at this
 omega
end
end Go.Proofs.YtecglpocmhkkiaaGreatDoor
namespace Go.Proofs.YtecglpocmhkkiaaGreatDoor
open Go.RowKit Go.Sort
open Nw N8 Q6 F9 B10 Go.ChangeShapes Go.WideShapes
namespace B10
def FineB (ls : List Ln) : Prop := ls.length ≤ 100000 ∧ ∀ (j : Nat) (h : j < ls.length), (ls[j]'h).ind + (ls[j]'h).text.length ≤ 100000
theorem cut1_fine {x : Ln} (h1 : 1 < x.text.length) (h : x.ind + x.text.length ≤ 100000) : (cut1 x).ind + (cut1 x).text.length ≤ 100000 := by
 have h2 : indN (x.text.drop 1) ≤ (x.text.drop 1).length := indN_le _
 rw [List.length_drop] at h2
 show x.ind + (1 + indN (x.text.drop 1)) + (x.text.drop (1 + indN (x.text.drop 1))).length ≤ _
 rw [List.length_drop]
 omega
theorem fineB_set {ls : List Ln} (hf : FineB ls) {j : Nat} (hj : j < ls.length) (h1 : 1 < (ls[j]'hj).text.length) : FineB (ls.set j (cut1 (ls[j]'hj))) := by
 refine ⟨by rw [List.length_set]; exact hf.1, fun i hi => ?_⟩
 rw [List.length_set] at hi
 by_cases hij : j = i
 ·subst hij
  rw [List.getElem_set_self]
  exact cut1_fine h1 (hf.2 j hj)
 ·rw [List.getElem_set_ne hij]
  exact hf.2 i hi
theorem set_drop {ls : List Ln} {j : Nat} (hj : j < ls.length) (x : Ln) : (ls.set j x).drop j = x :: ls.drop (j + 1) := by
 rw [List.drop_eq_getElem_cons (by rw [List.length_set]; exact hj), List.getElem_set_self, List.drop_set, if_pos (Nat.lt_succ_self j)]
theorem more_zero (r : Res) : r.more 0 = r := by
 cases r with
 | bad n e => rfl
 | ok d k => show Res.ok d (0 + k) = _; rw [Nat.zero_add]
theorem more_more (r : Res) (a b : Nat) : (r.more a).more b = r.more (b + a) := by
 cases r with
 | bad n e => rfl
 | ok d k => show Res.ok d (b + (a + k)) = Res.ok d (b + a + k); rw [Nat.add_assoc]
theorem kids_took {n : Nat} {x : Ln} {l : List Ln} {d : Nd} {k : Nat} (h : kidS n x l = .ok d k) : 1 ≤ k ∧ k ≤ l.length + 1 := by
 unfold kidS at h
 split at h
 ·exact blk_took h
 ·split at h
  ·obtain ⟨m, h1, h2⟩ := more_ok h
   cases l with
   | nil => rename_i hdp; cases hdp
   | cons z l => have := blk_took h1; exact ⟨by omega, by rw [List.length_cons]; omega⟩
  ·injection h with h1 h2; exact ⟨by omega, by omega⟩
theorem kidm_took {n : Nat} {x : Ln} {l : List Ln} {r : L8} {d : Nd} {k : Nat} (h : kidM n x l r = .ok d k) : 1 ≤ k ∧ k ≤ l.length + 1 := by
 unfold kidM at h
 split at h
 ·have := val_one h; exact ⟨by omega, by omega⟩
 ·split at h
  ·obtain ⟨m, h1, h2⟩ := more_ok h
   cases l with
   | nil => rename_i hdp; cases hdp
   | cons z l => have := blk_took h1; exact ⟨by omega, by rw [List.length_cons]; omega⟩
  ·injection h with h1 h2; exact ⟨by omega, by omega⟩
end B10
section
variable {w : World} {g : Nat} {t : TypeId} {a b c d e f h : Value}
end
end Go.Proofs.YtecglpocmhkkiaaGreatDoor
namespace Go.Proofs.YtecglpocmhkkiaaGreatDoor
section
open Go.RowKit Go.Sort
open Q6
theorem Cut_in (no ind : Int) (k m : Nat) (t q : ByteArray) (w : World) (ht : t.size ≤ 100000) (hi0 : 0 ≤ ind) (hi1 : ind ≤ 100000) (hk : k ≤ t.size) (hm : cutN t.data.toList k = m) (hq : t.data.toList.drop m = q.data.toList) :
  Calls Tryz.prog 91 #[.agg #[.int .i64 no, .int .i64 ind, .string t], .int .i64 (k : Int)] w fun e w' => e = .returned (.agg #[.int .i64 no, .int .i64 (ind + (m : Int)), .string q]) ∧ Below w.heap.size w w' := by
 have hmt : m ≤ t.size := by rw [← hm, ← len_eq]; exact cutN_le (by rw [len_eq]; exact hk)
 have hqs : q.size + m = t.size := by
  have h1 : q.data.toList.length = q.size := len_eq q
  rw [← hq, List.length_drop, len_eq] at h1
  omega
 have HT := hid (fun w0 => trimL_any (t.extract k t.size) q w0 (by rw [from_data, List.drop_drop, ← hq, ← hm]; rfl))
 have kz : (k : Int) ≤ (t.size : Int) := by omega
 have k0 : ¬ (t.size : Int) < (k : Int) := by omega
 have e1 : ind + (t.size : Int) - (q.size : Int) = ind + (m : Int) := by omega
 have e2 : IntKind.i64.wrap (ind + (m : Int)) = ind + (m : Int) := IntWalk.i64_in _ (by omega)
 have e3 : IntKind.i64.wrap (ind + (t.size : Int)) = ind + (t.size : Int) := IntWalk.i64_in _ (by omega)
 clear hm hq hqs
 go_enter Tryz.func91, Tryz.ntmps91
 go_wp2_with (go_at_call 53; refine (HT.out _).mono ?_; rintro e w' ⟨rfl, rfl⟩)
 exact bodyPost_ret (v := .agg #[.int .i64 no, .int .i64 (ind + (m : Int)), .string q]) (by simp [results, Tryz.results91, go_sem]) rfl ⟨rfl, by first | exact ((Below.refl _ _).alloc (Nat.le_refl _) _).alloc (by simp) _ | exact (((((Below.refl _ _).alloc (Nat.le_refl _) _).alloc (by simp) _).setCell (by simp) _).setCell (by simp) _).setCell (by simp) _⟩
end
section
open Go.RowKit Go.Sort
open Nw N8 Q6 F9 B10 Go.ChangeShapes Go.WideShapes
def ParL (P : Nd × Nat × Int) (w : World) (e : Ending) (w' : World) : Prop := ∃ (k : Int) (t : ByteArray) (a : Option Addr) (n c : Nat) (A : Option Addr) (m q : Nat),
 e = .returned (.tuple #[.agg #[.int .i64 k, .string t, .slice a n c, .slice A m q], .int .i64 (P.2.1 : Int), .int .i64 P.2.2]) ∧ NdW w' P.1 (.int .i64 k) (.string t) (.slice a n c) (.slice A m q) ∧ Below w.heap.size w w'
theorem parl_ret {w W : World} {P : Nd × Nat × Int} {d : Nd} {kk : Int} {t : ByteArray} {a : Option Addr} {nn c : Nat} {A : Option Addr} {m q : Nat} (hb : Below w.heap.size w W)
  (nd : NdC (fun b => b ≠ w.heap.size ∧ b < W.heap.size) W d (.int .i64 kk) (.string t) (.slice a nn c) (.slice A m q)) {no E : Int} (hP : P.1 = d ∧ (P.2.1 : Int) = no ∧ P.2.2 = E) :
  ParL P w (.returned (.tuple #[.agg #[.int .i64 kk, .string t, .slice a nn c, .slice A m q], .int .i64 no, .int .i64 E])) (p4 W w.heap.size (.int .i64 kk) (.string t) (.slice a nn c) (.slice A m q)) := by
 obtain ⟨h1, h2, h3⟩ := hP
 subst h2; subst h3
 refine ⟨_, _, _, _, _, _, _, _, rfl, ?_, below_p4 hb (Nat.le_refl _) _ _ _ _⟩
 rw [h1]
 exact NdC.keep (fun b hb => ⟨by rw [p4_size]; exact hb.2, p4_oth b hb.1 _ _ _ _⟩) _ nd
end
end Go.Proofs.YtecglpocmhkkiaaGreatDoor
