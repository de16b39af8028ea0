/- The contract of the program's With. -/
import Derived.Test.YtgingebdoppdbaaNodSeq
import Derived.Test.YtgingebdoppdbaaNodMath2
import Derived.Deep.RegionHeld3
import Derived.Deep.CutRange
namespace Go.Proofs.Ytgingebdoppdbaa
open Go.RowKit Go.Sort
open Nw N8 Go.ChangeShapes Go.WideShapes
set_option linter.unusedVariables false
/-- The three boxes of With, and the two nodes. -/
def Bx3 (w W : World) (d dv : Nd) (c0 c1 c2 c3 u0 u1 u2 u3 : Value) : Prop :=
  Below w.heap.size w W ∧ Row4 W w.heap.size 25 c0 c1 c2 c3 ∧ Row4 W (w.heap.size + 1) 25 u0 u1 u2 u3 ∧ Row4 W (w.heap.size + 2) 25 (.int .i64 0) (.string ⟨#[]⟩) (.slice none 0 0) (.slice none 0 0) ∧
    NdC (· < w.heap.size) W d c0 c1 c2 c3 ∧ NdC (· < w.heap.size) W dv u0 u1 u2 u3
section
variable {w W W' : World} {d dv : Nd} {c0 c1 c2 c3 u0 u1 u2 u3 : Value}
theorem Bx3.size (h : Bx3 w W d dv c0 c1 c2 c3 u0 u1 u2 u3) : w.heap.size + 3 ≤ W.heap.size := h.2.2.2.1.lt
theorem Bx3.small (h : Bx3 w W d dv c0 c1 c2 c3 u0 u1 u2 u3) : ∀ b, b < w.heap.size → b < W.heap.size := fun b hb => by have := h.size; omega
theorem Bx3.go (h : Bx3 w W d dv c0 c1 c2 c3 u0 u1 u2 u3) (hb : Below W.heap.size W W') : Bx3 w W' d dv c0 c1 c2 c3 u0 u1 u2 u3 :=
  ⟨h.1.trans (hb.mono h.1.size), h.2.1.below hb h.2.1.lt, h.2.2.1.below hb h.2.2.1.lt, h.2.2.2.1.below hb h.2.2.2.1.lt, h.2.2.2.2.1.old h.small hb, h.2.2.2.2.2.old h.small hb⟩
theorem Bx3.make (h : NdW w d c0 c1 c2 c3) (g : NdW w dv u0 u1 u2 u3) :
    Bx3 w (((w.alloc (.cells #[c0, c1, c2, c3] 25)).alloc (.cells #[u0, u1, u2, u3] 25)).alloc (.cells #[.int .i64 0, .string ⟨#[]⟩, .slice none 0 0, .slice none 0 0] 25)) d dv c0 c1 c2 c3 u0 u1 u2 u3 := by
  have h2 := Boxed2.make h g
  have hb : Below _ _ (((w.alloc (.cells #[c0, c1, c2, c3] 25)).alloc (.cells #[u0, u1, u2, u3] 25)).alloc (.cells #[.int .i64 0, .string ⟨#[]⟩, .slice none 0 0, .slice none 0 0] 25)) := (Below.refl _ _).alloc (Nat.le_refl _) _
  have h3 := h2.go hb
  refine ⟨h3.1, h3.2.1, h3.2.2.1, ?_, NdC.keep (fun b hlt => ⟨hlt, h3.1.block b hlt⟩) d h, NdC.keep (fun b hlt => ⟨hlt, h3.1.block b hlt⟩) dv g⟩
  have := Row4.make ((w.alloc (.cells #[c0, c1, c2, c3] 25)).alloc (.cells #[u0, u1, u2, u3] 25)) 25 (.int .i64 0) (.string ⟨#[]⟩) (.slice none 0 0) (.slice none 0 0)
  rw [show ((w.alloc (.cells #[c0, c1, c2, c3] 25)).alloc (.cells #[u0, u1, u2, u3] 25)).heap.size = w.heap.size + 2 by simp] at this
  exact this
/-- What is changed in blocks of the call's own leaves the boxes. -/
theorem Bx3.far (h : Bx3 w W d dv c0 c1 c2 c3 u0 u1 u2 u3) (hb : Below (w.heap.size + 3) W W') : Bx3 w W' d dv c0 c1 c2 c3 u0 u1 u2 u3 :=
  ⟨h.1.trans (hb.mono (by omega)), h.2.1.below hb (by omega), h.2.2.1.below hb (by omega), h.2.2.2.1.below hb (by omega),
    NdC.keep (fun b hs => ⟨hs, hb.block b (by have : b < w.heap.size := hs; omega)⟩) d h.2.2.2.2.1, NdC.keep (fun b hs => ⟨hs, hb.block b (by have : b < w.heap.size := hs; omega)⟩) dv h.2.2.2.2.2⟩
end
theorem NdC.rd {S : Nat → Prop} {w : World} {k : Int} {t : L8} {ks : List L8} {ds : List Nd} {c0 c1 c2 c3 : Value} (h : NdC S w (.mk k t ks ds) c0 c1 c2 c3) (hS : ∀ b, S b → b < w.heap.size) : Rd w c2 ks := (h.all hS).parts.2.2.1
theorem NdC.kdS {S : Nat → Prop} {w : World} {k : Int} {t : L8} {ks : List L8} {ds : List Nd} {c0 c1 c2 c3 : Value} (h : NdC S w (.mk k t ks ds) c0 c1 c2 c3) : KdS S w c3 ds := by
  rw [NdC] at h
  exact h.2.2.2
/-- What With holds before the value is put. -/
def WithSt (w W : World) (d dv : Nd) (c0 c1 c2 c3 u0 u1 u2 u3 : Value) (s7 s8 : Value) (ks : List L8) (ds : List Nd) : Prop :=
  Bx3 w W d dv c0 c1 c2 c3 u0 u1 u2 u3 ∧ W.ownsRow (w.heap.size + 3) 9 1 s7 ks.length (ks.map encStr) ∧ ∃ qs, KO (· < w.heap.size) (w.heap.size + 3) W s8 qs ds
theorem WithSt.go {w W W' : World} {d dv : Nd} {c0 c1 c2 c3 u0 u1 u2 u3 : Value} {s7 s8 : Value} {ks : List L8} {ds : List Nd} (h : WithSt w W d dv c0 c1 c2 c3 u0 u1 u2 u3 s7 s8 ks ds) (hb : Below W.heap.size W W') : WithSt w W' d dv c0 c1 c2 c3 u0 u1 u2 u3 s7 s8 ks ds := by
  obtain ⟨h1, h2, qs, h3⟩ := h
  exact ⟨h1.go hb, owns_below h2 hb, qs, h3.below h1.small hb⟩
/-- The end of With: the box of the result is written. -/
theorem WithSt.done {w W : World} {d dv : Nd} {c0 c1 c2 c3 u0 u1 u2 u3 : Value} {s7 s8 : Value} {ks : List L8} {ds : List Nd} (h : WithSt w W d dv c0 c1 c2 c3 u0 u1 u2 u3 s7 s8 ks ds) :
    NdW (put4 W (w.heap.size + 2) (.int .i64 3) (.string ⟨#[]⟩) s7 s8) (.mk 3 [] ks ds) (.int .i64 3) (.string ⟨#[]⟩) s7 s8 ∧ Below w.heap.size w (put4 W (w.heap.size + 2) (.int .i64 3) (.string ⟨#[]⟩) s7 s8) := by
  obtain ⟨h1, h2, qs, h3⟩ := h
  have hB := below_put4 h1.1 (g := w.heap.size + 2) (by omega) (.int .i64 3) (.string ⟨#[]⟩) s7 s8
  exact ⟨ndw_map (rd_of_owns (owns_put h2 (by omega) _ _ _ _)) ((h3.put (by omega) (fun b hb => by have : b < w.heap.size := hb; omega) _ _ _ _).kd fun b hb => Nat.lt_of_lt_of_le hb hB.size), hB⟩
set_option maxRecDepth 100000 in
set_option maxHeartbeats 4000000 in
theorem With_else (d dv : Nd) (x : ByteArray) (h0 : d.kind ≠ 0) (h3 : d.kind ≠ 3) (c0 c1 c2 c3 u0 u1 u2 u3 : Value) (w : World) (hd : NdW w d c0 c1 c2 c3) (hv : NdW w dv u0 u1 u2 u3) :
    Calls Try.prog 18 #[.agg #[c0, c1, c2, c3], .string x, .agg #[u0, u1, u2, u3]] w (GivesN d w) := by
  have HB := Lib.hid (Bx3.make hd hv)
  obtain ⟨k, s, a, n, c, A, m, q, rfl, rfl, rfl, rfl⟩ := hd.shape
  obtain ⟨k1, s1, a1, n1, c9, A1, m1, q1, rfl, rfl, rfl, rfl⟩ := hv.shape
  obtain ⟨hk, -⟩ := NdC.len hd
  have p1 : (k != 3) = true := bne_iff_ne.2 (by rw [← hk]; exact h3)
  have p2 : (k != 0) = true := bne_iff_ne.2 (by rw [← hk]; exact h0)
  obtain ⟨x0, x1, x2, x3⟩ := HB.out.2.1.cells
  obtain ⟨z0, z1, z2, z3⟩ := HB.out.2.2.2.1.cells
  obtain ⟨f0, f1, f2, f3⟩ := HB.out.2.2.2.1.frozen
  have HX8 := Lib.hid (below_put4 HB.out.1 (g := w.heap.size + 2) (by omega) (.int .i64 k) (.string s) (.slice a n c) (.slice A m q))
  have HND := Lib.hid ((HB.out.2.2.2.2.1.put (g := w.heap.size + 2) (fun b hs => by have : b < w.heap.size := hs; omega) (.int .i64 k) (.string s) (.slice a n c) (.slice A m q)).all fun b hb => Nat.lt_of_lt_of_le hb HX8.out.size)
  clear hd hv hk h0 h3
  generalize hW0 : ((w.alloc (.cells #[.int .i64 k, .string s, .slice a n c, .slice A m q] 25)).alloc (.cells #[.int .i64 k1, .string s1, .slice a1 n1 c9, .slice A1 m1 q1] 25)).alloc (.cells #[.int .i64 0, .string ⟨#[]⟩, .slice none 0 0, .slice none 0 0] 25) = W0 at *
  go_enter Try.func18, Try.ntmps18
  go_wp2
  refine bodyPost_ret (v := .agg #[.int .i64 k, .string s, .slice a n c, .slice A m q]) (by simp [results, Try.results18, go_sem, z0, z1, z2, z3]) rfl ⟨_, _, _, _, rfl, HND.out, HX8.out⟩
/-- What the region with the two copies reads. -/
def SX (w W : World) (c2 c3 : Value) (P : Prop) : Prop := W.cell? ⟨w.heap.size, 2, none⟩ = some c2 ∧ W.cell? ⟨w.heap.size, 3, none⟩ = some c3 ∧ P
/-- A node stored into a row of the call's own. -/
def put4at (w : World) (g o : Nat) (a b c d : Value) : World := (((w.setCell ⟨g, o, none⟩ a).setCell ⟨g, o + 1, none⟩ b).setCell ⟨g, o + 2, none⟩ c).setCell ⟨g, o + 3, none⟩ d
theorem put4at_oth {w : World} {g o : Nat} (b : Nat) (hb : b ≠ g) (a' b' c' d' : Value) : (put4at w g o a' b' c' d').heap[b]? = w.heap[b]? := by
  unfold put4at
  rw [Below.heap_setCell _ _ _ _ (by show b ≠ g; omega), Below.heap_setCell _ _ _ _ (by show b ≠ g; omega), Below.heap_setCell _ _ _ _ (by show b ≠ g; omega), Below.heap_setCell _ _ _ _ (by show b ≠ g; omega)]
theorem below_put4at {B : Nat} {w w' : World} {g o : Nat} (h : Below B w w') (hg : B ≤ g) (a b c d : Value) : Below B w (put4at w' g o a b c d) :=
  (((h.setCell (p := ⟨g, o, none⟩) hg a).setCell (p := ⟨g, o + 1, none⟩) hg b).setCell (p := ⟨g, o + 2, none⟩) hg c).setCell (p := ⟨g, o + 3, none⟩) hg d
theorem KO.stored {S : Nat → Prop} {base : Nat} {w : World} {g cap n : Nat} {qs : List Q4} {ds : List Nd} (h : KO S base w (.slice (some ⟨g, 0, none⟩) n cap) qs ds) (hn : ds.length = n) (hS : ∀ b, S b → b ≠ g) (j : Nat) (hj : j < ds.length) (e : Nd) (q : Q4) (he : NdQ S w e q) :
    KO S base (put4at w g (j * 4) q.a q.b q.c q.d) (.slice (some ⟨g, 0, none⟩) n cap) (qs.set j q) (ds.set j e) := by
  obtain ⟨h1, h2, h3⟩ := h
  rw [hn] at h1
  have hk : ∀ b, S b → S b ∧ (put4at w g (j * 4) q.a q.b q.c q.d).heap[b]? = w.heap[b]? := fun b hb => ⟨hb, put4at_oth b (hS b hb) _ _ _ _⟩
  refine ⟨?_, by rw [List.length_set, List.length_set, h2], fun i hi gi => ?_⟩
  · rw [List.length_set, ← flat4_set, hn]
    exact ((((h1.stored _ _).1.stored _ _).1.stored _ _).1.stored _ _).1
  · by_cases hij : j = i
    · subst hij
      rw [List.getElem_set_self, List.getElem_set_self]
      exact NdC.keep hk e he
    · rw [List.getElem_set_ne hij, List.getElem_set_ne hij]
      exact NdC.keep hk _ (h3 i (by rw [List.length_set] at hi; exact hi) (by rw [List.length_set] at gi; exact gi))
theorem KO.form {S : Nat → Prop} {base : Nat} {w : World} {v : Value} {qs : List Q4} {ds : List Nd} (h : KO S base w v qs ds) (hd : 0 < ds.length) : ∃ g cap, v = .slice (some ⟨g, 0, none⟩) ds.length cap ∧ base ≤ g ∧ g < w.heap.size ∧ ds.length ≤ cap ∧ cap ≤ maxLen := by
  rcases h.1.2 with ⟨_, h0⟩ | ⟨g, cap, cur, h1, h2, h3, h4, h5, _⟩
  · omega
  · exact ⟨g, cap, h1, h2, (h.1.lt g (by rw [h1]; rfl)).2, h4, h5⟩
theorem KO.at_ {S : Nat → Prop} {base : Nat} {w : World} {g cap n : Nat} {qs : List Q4} {ds : List Nd} (h : KO S base w (.slice (some ⟨g, 0, none⟩) n cap) qs ds) (hn : ds.length = n) (j : Nat) (hj : j < ds.length) :
    (∃ e0 e1 e2 e3, w.cell? ⟨g, j * 4, none⟩ = some e0 ∧ w.cell? ⟨g, j * 4 + 1, none⟩ = some e1 ∧ w.cell? ⟨g, j * 4 + 2, none⟩ = some e2 ∧ w.cell? ⟨g, j * 4 + 3, none⟩ = some e3 ∧ NdC S w (ds[j]'hj) e0 e1 e2 e3) ∧
    w.frozen? ⟨g, j * 4, none⟩ = false ∧ w.frozen? ⟨g, j * 4 + 1, none⟩ = false ∧ w.frozen? ⟨g, j * 4 + 2, none⟩ = false ∧ w.frozen? ⟨g, j * 4 + 3, none⟩ = false := by
  obtain ⟨h1, h2, h3⟩ := h
  rw [hn] at h1
  have hq : j < qs.length := by rw [h2]; exact hj
  obtain ⟨f0, f1, f2, f3⟩ := flat4_get qs j hq
  exact ⟨⟨_, _, _, _, (h1.cellAt (j * 4) (by omega)).trans f0, (h1.cellAt (j * 4 + 1) (by omega)).trans f1, (h1.cellAt (j * 4 + 2) (by omega)).trans f2, (h1.cellAt (j * 4 + 3) (by omega)).trans f3, h3 j hq hj⟩,
    h1.frozenAt _, h1.frozenAt _, h1.frozenAt _, h1.frozenAt _⟩
theorem step_append_own {P : Program} {ops : Array Oper} {o : Oper} {a : Act} {w : World} {K : Act → World → Prop} {Q : Exit → Act → World → Prop} {E : Prop} (hg : o.guard = none) (s x : Operand) (t : TypeId)
    (ho : o.op = .call { callee := .builtin .append, args := #[s, x], argTypes := #[t, t] })
    (base : Nat) (e : TypeId) (i : TypeInfo) (z : Value) (size bytes : Nat) (ht : P.underlying t = some (.slice e)) (hi : P.info? e = some i) (hz : i.zero = some z)
    (hsize : i.size = size) (hby : i.bytes = bytes) (hzs : z.cells.size = size) (hsz : 0 < size)
    (v : Value) (n : Nat) (xs : List Value) (hs : a.eval s = v) (hown : w.ownsRow base e size v n xs)
    (ad : Addr) (m c : Nat) (news : List Value) (hx : a.eval x = .slice (some ad) m c) (hl : news.length = m * size) (hnews : ∀ j u, news[j]? = some u → w.cell? (ad.add j) = some u) (h1 : ∀ u ∈ news, u.oneCell' = true)
    (h63 : n + m ≤ maxLen) (hbytes : (n + m) * bytes ≤ 140737488355328) (hbase : base ≤ w.heap.size)
    (h : ∀ v' w', w'.ownsRow base e size v' (n + m) (xs ++ news) → w.grownBy w' v.ownBlock → (v' = .slice none 0 0 ↔ v = .slice none 0 0 ∧ m = 0) → K (a.put o.dst v') w') :
    if Region.wanted o (yielded ops a.tmps) = true then Oper.wp P o a w K Q else E := by
  rw [if_pos (by simp [Region.wanted, hg])]
  exact wp_append_own w s x t ho base e i z size bytes ht hi hz hsize hby hzs hsz v n xs hs hown ad m c news hx hl hnews h1 h63 hbytes hbase h
theorem cells_new (w : World) (c : Array Value) (t : TypeId) : ∀ j u, c.toList[j]? = some u → (w.alloc (.cells c t)).cell? ((⟨w.heap.size, 0, none⟩ : Addr).add j) = some u := by
  intro j u h
  have hadd : (⟨w.heap.size, 0, none⟩ : Addr).add j = ⟨w.heap.size, j, none⟩ := by unfold Addr.add; split <;> simp_all
  rw [hadd, cell_of_row _ _ j c t (0, 0) (heap_alloc_new w _)]
  simpa using h
theorem news_alloc {w : World} {ad : Addr} {l : List Value} (h : ∀ j u, l[j]? = some u → w.cell? (ad.add j) = some u) (o : Obj) : ∀ j u, l[j]? = some u → (w.alloc o).cell? (ad.add j) = some u := fun j u hj => cells_alloc (h j u hj)
theorem news_grown {w w' : World} {b : Nat} {l : List Value} {row : Option Nat} (h : ∀ j u, l[j]? = some u → w.cell? ((⟨b, 0, none⟩ : Addr).add j) = some u) (hg : w.grownBy w' row) (hne : row ≠ some b) : ∀ j u, l[j]? = some u → w'.cell? ((⟨b, 0, none⟩ : Addr).add j) = some u := fun j u hj => by
  have h1 := h j u hj
  rw [add_plain] at h1 ⊢
  exact hg.cell h1 fun e => hne e.symm
/-- Two rows of the call's own, strings and nodes, in a world that follows another. -/
def PR (B : Nat) (W0 W : World) (s : Value) (n : Nat) (xs : List Value) (v : Value) (m : Nat) (ys : List Value) : Prop := Below B W0 W ∧ B ≤ W.heap.size ∧ W.ownsRow B 9 1 s n xs ∧ W.ownsRow B 25 4 v m ys
section
variable {B : Nat} {W0 W W' : World} {s s' v v' : Value} {n n' m m' : Nat} {xs xs' ys ys' : List Value}
theorem PR.alloc (h : PR B W0 W s n xs v m ys) (o : Obj) : PR B W0 (W.alloc o) s n xs v m ys := ⟨h.1.alloc h.2.1 o, by have := h.2.1; simp; omega, h.2.2.1.alloc o, h.2.2.2.alloc o⟩
theorem PR.drew (h : PR B W0 W s n xs v m ys) : PR B W0 W.drew s n xs v m ys := ⟨h.1.drew, h.2⟩
theorem PR.nextS (h : PR B W0 W s n xs v m ys) (hs : W'.ownsRow B 9 1 s' n' xs') (hg : W.grownBy W' s.ownBlock) : PR B W0 W' s' n' xs' v m ys :=
  ⟨h.1.grown hg h.2.1 fun k hk => (h.2.2.1.lt k hk).1, Nat.le_trans h.2.1 hg.size, hs, owns_keep h.2.2.2 fun g hgv => hg.block g (h.2.2.2.lt g hgv).2 fun e => owns_apart h.2.2.2 h.2.2.1 (by decide) hgv e.symm⟩
theorem PR.nextN (h : PR B W0 W s n xs v m ys) (hs : W'.ownsRow B 25 4 v' m' ys') (hg : W.grownBy W' v.ownBlock) : PR B W0 W' s n xs v' m' ys' :=
  ⟨h.1.grown hg h.2.1 fun k hk => (h.2.2.2.lt k hk).1, Nat.le_trans h.2.1 hg.size, owns_keep h.2.2.1 fun g hgv => hg.block g (h.2.2.1.lt g hgv).2 fun e => owns_apart h.2.2.1 h.2.2.2 (by decide) hgv e.symm, hs⟩
end
theorem one_str (x : ByteArray) : ∀ u ∈ [Value.string x], u.oneCell' = true := by
  intro u hu
  rw [List.mem_singleton] at hu
  subst hu; rfl
theorem four_one (k : Int) (s : ByteArray) (a : Option Addr) (n c : Nat) (A : Option Addr) (m q : Nat) : ∀ u ∈ [Value.int .i64 k, .string s, .slice a n c, .slice A m q], u.oneCell' = true := by
  intro u hu
  simp only [List.mem_cons, List.not_mem_nil, or_false] at hu
  rcases hu with rfl | rfl | rfl | rfl <;> rfl
/-- A cell is kept where another block grows. -/
theorem cell_grown {w w' : World} {row : Option Nat} {p : Addr} {v : Value} (h : w.cell? p = some v) (hg : w.grownBy w' row) (hne : row ≠ some p.block) : w'.cell? p = some v := hg.cell h fun e => hne e.symm
theorem with_final {w w2 W : World} {d dv : Nd} {c0 c1 c2 c3 u0 u1 u2 u3 : Value} {s7 s8 : Value} {ks : List L8} {ds : List Nd} {qs : List Q4} {x : ByteArray} (h : Bx3 w w2 d dv c0 c1 c2 c3 u0 u1 u2 u3) (hl : qs.length = ds.length) (hq : ∀ (j : Nat) (h : j < qs.length) (g : j < ds.length), NdQ (· < w.heap.size) w2 (ds[j]'g) (qs[j]'h))
    (hP : PR (w.heap.size + 3) w2 W s7 (ks.length + 1) (ks.map encStr ++ [.string x]) s8 (ds.length + 1) (flat4 qs ++ [u0, u1, u2, u3])) : WithSt w W d dv c0 c1 c2 c3 u0 u1 u2 u3 s7 s8 (ks ++ [x.data.toList]) (ds ++ [dv]) := by
  have hk : ∀ b, b < w.heap.size → b < w.heap.size ∧ W.heap[b]? = w2.heap[b]? := fun b hb => ⟨hb, hP.1.block b (by omega)⟩
  refine ⟨h.far hP.1, ?_, qs ++ [⟨u0, u1, u2, u3⟩], ?_, by simp [hl], fun j hj g => ?_⟩
  · rw [List.length_append, List.map_append]
    have e : [x.data.toList].map encStr = [.string x] := by show [encStr x.data.toList] = _; rw [encStr_ba, ba_of]
    rw [e]; exact hP.2.2.1
  · rw [flat4_app, List.length_append]; exact hP.2.2.2
  · by_cases hjl : j < qs.length
    · rw [List.getElem_append_left hjl, List.getElem_append_left (by omega)]
      exact NdC.keep hk _ (hq j hjl (by omega))
    · rw [List.getElem_append_right (by omega), List.getElem_append_right (by omega)]
      have e1 : j - qs.length = 0 := by simp at hj; omega
      have e2 : j - ds.length = 0 := by omega
      simp only [e1, e2, List.getElem_cons_zero]
      exact NdC.keep hk dv h.2.2.2.2.2
/-- Four cells of a block that is there. -/
@[reducible] def Cells4b (g : Nat) (a b c d : Value) (w : World) : Prop :=
  g < w.heap.size ∧ w.cell? ⟨g, 0, none⟩ = some a ∧ w.cell? ⟨g, 1, none⟩ = some b ∧ w.cell? ⟨g, 2, none⟩ = some c ∧ w.cell? ⟨g, 3, none⟩ = some d
theorem keepD_alloc {g : Nat} {a b c d : Value} {w : World} {o : Obj} (h : Cells4b g a b c d w) : Cells4b g a b c d (w.alloc o) :=
  ⟨by simp; have := h.1; omega, cells_alloc h.2.1, cells_alloc h.2.2.1, cells_alloc h.2.2.2.1, cells_alloc h.2.2.2.2⟩
theorem keepD_grown {g : Nat} {a b c d : Value} {w w' : World} {row : Option Nat} (hg : w.grownBy w' row) (hn : row ≠ some g) (h : Cells4b g a b c d w) : Cells4b g a b c d w' :=
  ⟨Nat.lt_of_lt_of_le h.1 hg.size, cell_grown h.2.1 hg hn, cell_grown h.2.2.1 hg hn, cell_grown h.2.2.2.1 hg hn, cell_grown h.2.2.2.2 hg hn⟩
theorem news_blk {w : World} {B : Nat} (cs : Array Value) {t : TypeId} (hb : w.heap[B]? = some (.cells cs t (0, 0))) : ∀ j u, cs.toList[j]? = some u → w.cell? ((⟨B, 0, none⟩ : Addr).add j) = some u := by
  intro j u h
  rw [add_plain, Nat.zero_add, cell_of_row _ _ j cs t (0, 0) hb]
  simpa using h
theorem alloc_at (w : World) (o : Obj) : (w.alloc o).heap[w.heap.size]? = some o := heap_alloc_new w o
theorem alloc_at1 (w : World) (o p : Obj) : ((w.alloc p).alloc o).heap[w.heap.size + 1]? = some o := by
  have := heap_alloc_new (w.alloc p) o
  rwa [show (w.alloc p).heap.size = w.heap.size + 1 by simp] at this
theorem alloc_at0 (w : World) (o p : Obj) : ((w.alloc o).alloc p).heap[w.heap.size]? = some o := (Below.heap_alloc (w.alloc o) p w.heap.size (by simp)).trans (heap_alloc_new w o)
set_option maxRecDepth 100000 in
set_option maxHeartbeats 8000000 in
theorem With_map (k : Int) (ks : List L8) (ds : List Nd) (dv : Nd) (x : ByteArray) (hf : Fine (.mk k [] ks ds)) (hk : k = 0 ∨ k = 3) (hcnt : ds.length ≤ 10000) (hkcnt : ks.length ≤ 10000) (c0 c1 c2 c3 u0 u1 u2 u3 : Value) (w : World) (hd : NdW w (.mk k [] ks ds) c0 c1 c2 c3) (hv : NdW w dv u0 u1 u2 u3) :
    Calls Try.prog 18 #[.agg #[c0, c1, c2, c3], .string x, .agg #[u0, u1, u2, u3]] w (GivesN (withT (.mk k [] ks ds) x.data.toList dv) w) := by
  have HB := Lib.hid (Bx3.make hd hv)
  have HF := Lib.hid hf
  have HKK := Lib.hid hk
  obtain ⟨k', s, a, n, c, A, m, q, rfl, rfl, rfl, rfl⟩ := hd.shape
  obtain ⟨k1, s1, a1, n1, c9, A1, m1, q1, rfl, rfl, rfl, rfl⟩ := hv.shape
  obtain ⟨hk', -⟩ := NdC.len hd
  obtain rfl : k = k' := hk'
  have HCS := Lib.hid (fun W hW => CloneS_any (.slice a n c) ks W hW (by omega))
  have HCN := Lib.hid (fun W hS hW => CloneN_any (· < w.heap.size) (.slice A m q) ds W hS hW (by omega))
  have HFI := Lib.hid (fun W hW => find_any (.mk k [] ks ds) x (fine_keys hf) (.int .i64 k) (.string s) (.slice a n c) (.slice A m q) W hW)
  have HCNT := Lib.hid (And.intro hcnt hkcnt)
  clear hd hv hf hcnt hkcnt
  generalize hW0 : ((w.alloc (.cells #[.int .i64 k, .string s, .slice a n c, .slice A m q] 25)).alloc (.cells #[.int .i64 k1, .string s1, .slice a1 n1 c9, .slice A1 m1 q1] 25)).alloc (.cells #[.int .i64 0, .string ⟨#[]⟩, .slice none 0 0, .slice none 0 0] 25) = W0 at *
  obtain ⟨x0, x1, x2, x3⟩ := HB.out.2.1.cells
  rcases hk with rfl | rfl
  · have hS1 : SX w W0.drew (.slice a n c) (.slice A m q) (Bx3 w W0.drew (.mk 0 [] ks ds) dv (.int .i64 0) (.string s) (.slice a n c) (.slice A m q) (.int .i64 k1) (.string s1) (.slice a1 n1 c9) (.slice A1 m1 q1)) := ⟨x2, x3, HB.out.go (below_drew _)⟩
    go_enter Try.func18, Try.ntmps18
    go_upto_region 3 with fail
    go_cut [7, 8] from 19 to 24 (fun s7 s8 W => WithSt w W (.mk 0 [] ks ds) dv (.int .i64 0) (.string s) (.slice a n c) (.slice A m q) (.int .i64 k1) (.string s1) (.slice a1 n1 c9) (.slice A1 m1 q1) s7 s8 ks ds)
    case first =>
      obtain ⟨g2, g3, hS0⟩ := hS1
      have HB0 := Lib.hid hS0
      go_region_held3 (fun W => W.cell? ⟨w.heap.size, 2, none⟩ = some (.slice a n c) ∧ W.cell? ⟨w.heap.size, 3, none⟩ = some (.slice A m q)) (first | exact ⟨g2, g3⟩ | assumption)
        (first
          | (go_at_call 40; refine (HCS.out _ (NdC.rd (by first | exact HB0.out.2.2.2.2.1 | exact HBN.out.2.2.2.2.1) (by first | exact HB0.out.small | exact HBN.out.small))).mono ?_; rintro e w2 ⟨s7, rfl, hoS, hbS⟩; have HBS := Lib.hid (Bx3.go (by first | exact HB0.out | exact HBN.out) hbS); have hcS := HBS.out.2.1.cells.2.2)
          | (go_at_call 41; refine (HCN.out _ (by first | exact HB0.out.small | exact HBS.out.small) (NdC.kdS (by first | exact HB0.out.2.2.2.2.1 | exact HBS.out.2.2.2.2.1))).mono ?_; rintro e w3 ⟨s8, rfl, ⟨qs, hoN⟩, hbN⟩; have HBN := Lib.hid (Bx3.go (by first | exact HB0.out | exact HBS.out) hbN); have hcN := HBN.out.2.1.cells.2.2))
      all_goals
        go_wp2_with fail
        go_meet
        first
          | exact ⟨HBN.out, owns_low (owns_below hoS hbN) HB0.out.size, qs, hoN.low HBS.out.size⟩
          | exact ⟨HBS.out, owns_low hoS HBN.out.size, qs, (hoN.below HB0.out.small hbS).low HB0.out.size⟩
    case rest =>
      have HST := Lib.hid hcut
      clear hS1 hcut HCS HCN hW0 HB x0 x1 x2 x3
      obtain ⟨x0, x1, x2, x3⟩ := HST.out.1.2.1.cells
      go_wp2_with fail
      refine (HFI.out _ (HST.out.1.2.2.2.2.1.all HST.out.1.small)).mono ?_
      rintro e w2 ⟨r, rfl, hfk, hb2⟩
      have HST2 := Lib.hid (HST.out.go hb2)
      clear hb2 HST x0 x1 x2 x3
      cases hfk with
      | yes j hk3 hj hdj he hn hg => cases hk3
      | no hg hno =>
        have hnot : x.data.toList ∉ ks := by have := (fine_null HF.out rfl).1; intro h; have h2 : ks = [] := this; rw [h2] at h; cases h
        have HW : Hid (withT (.mk 0 [] ks ds) x.data.toList dv = .mk 3 [] (ks ++ [x.data.toList]) (ds ++ [dv])) := Lib.hid (with_no HF.out (.inl rfl) hnot)
        obtain ⟨hB3, hS7, qs, hN8⟩ := HST2.out
        obtain ⟨b0, b1, b2, b3⟩ := hB3.2.2.1.cells
        have hP : PR (w.heap.size + 3) w2 w2.drew u7 ks.length (ks.map encStr) u8 ds.length (flat4 qs) := ⟨(Below.refl _ _).drew, hB3.size, hS7, hN8.1⟩
        have HB3 := Lib.hid hB3
        have HQ := Lib.hid hN8.2
        have HFIN := Lib.hid (fun W s7 s8 => with_final (W := W) (s7 := s7) (s8 := s8) (x := x) (ks := ks) hB3 hN8.2.1 hN8.2.2)
        have hC4 : Cells4b (w.heap.size + 1) (.int .i64 k1) (.string s1) (.slice a1 n1 c9) (.slice A1 m1 q1) w2.drew := ⟨hB3.2.2.1.lt, b0, b1, b2, b3⟩
        obtain ⟨i0, hi, hz0, hz1, hz2⟩ := infoS
        obtain ⟨j0, hj, hy0, hy1, hy2⟩ := infoN
        have hu7 : ∀ g, u7.ownBlock = some g → w.heap.size + 3 ≤ g ∧ g < w2.heap.size := fun g h => hS7.lt g h
        have hu8 : ∀ g, u8.ownBlock = some g → w.heap.size + 3 ≤ g ∧ g < w2.heap.size := fun g h => hN8.1.lt g h
        have hn7 : u7.ownBlock ≠ some (w.heap.size + 1) := fun e => by have := hu7 _ e; omega
        have hn8 : u8.ownBlock ≠ some (w.heap.size + 1) := fun e => by have := hu8 _ e; omega
        have hl1 := HCNT.out.1
        have hl2 := HCNT.out.2
        generalize ks.map encStr = X7 at hP HFIN
        generalize flat4 qs = X8 at hP HFIN
        generalize ks.length = N7 at hP HFIN hl2
        generalize ds.length = N8 at hP HFIN hl1
        clear hS7 hN8 HST2 hg hnot hno hB3 HQ HCNT HFI
        go_upto_region 7 with fail
        go_cut [7, 8] from 34 to 41 (fun s7 s8 W => WithSt w W (.mk 0 [] ks ds) dv (.int .i64 0) (.string s) (.slice a n c) (.slice A m q) (.int .i64 k1) (.string s1) (.slice a1 n1 c9) (.slice A1 m1 q1) s7 s8 (ks ++ [x.data.toList]) (ds ++ [dv]))
        case first =>
          go_region_held3 (fun W => w.heap.size + 1 < W.heap.size ∧ W.cell? ⟨w.heap.size + 1, 0, none⟩ = some (.int .i64 k1) ∧ W.cell? ⟨w.heap.size + 1, 1, none⟩ = some (.string s1) ∧ W.cell? ⟨w.heap.size + 1, 2, none⟩ = some (.slice a1 n1 c9) ∧ W.cell? ⟨w.heap.size + 1, 3, none⟩ = some (.slice A1 m1 q1))
            (first | exact hC4 | assumption | exact keepD_alloc (by assumption) | exact keepD_grown (by assumption) hn7 (by assumption) | exact keepD_grown (by assumption) hn8 (by assumption))
            (first
              | (refine step_append_own rfl _ _ 22 rfl (w.heap.size + 3) 9 i0 _ 1 16 Try.underlying22 hi hz0 hz1 hz2 rfl (by decide) u7 N7 X7 rfl (by first | exact hP.2.2.1 | exact (hP.alloc _).2.2.1 | exact ((hP.alloc _).alloc _).2.2.1) _ 1 1 [.string x] rfl rfl (by first | exact news_blk #[.string x] (alloc_at _ _) | exact news_blk #[.string x] (alloc_at1 _ _ _) | exact news_blk #[.string x] (alloc_at0 _ _ _) | exact news_blk #[.string x] ((hgN.block _ (by simp <;> omega) (fun e => by have := hu8 _ e.symm; omega)).trans (alloc_at _ _)) | exact news_blk #[.string x] ((hgN.block _ (by simp <;> omega) (fun e => by have := hu8 _ e.symm; omega)).trans (alloc_at1 _ _ _)) | exact news_blk #[.string x] ((hgN.block _ (by simp <;> omega) (fun e => by have := hu8 _ e.symm; omega)).trans (alloc_at0 _ _ _))) (one_str x) (by unfold maxLen; omega) (by omega) (by first | exact hP.2.1 | exact (hP.alloc _).2.1 | exact ((hP.alloc _).alloc _).2.1) ?_; intro v' w3 hownS hgS hnilS; have hP := PR.nextS (by first | exact hP | exact hP.alloc _ | exact (hP.alloc _).alloc _) hownS hgS)
              | (refine step_append_own rfl _ _ 23 rfl (w.heap.size + 3) 25 j0 _ 4 72 Try.underlying23 hj hy0 hy1 hy2 rfl (by decide) u8 N8 X8 rfl (by first | exact hP.2.2.2 | exact (hP.alloc _).2.2.2 | exact ((hP.alloc _).alloc _).2.2.2) _ 1 1 [.int .i64 k1, .string s1, .slice a1 n1 c9, .slice A1 m1 q1] rfl rfl (by first | exact news_blk #[.int .i64 k1, .string s1, .slice a1 n1 c9, .slice A1 m1 q1] (alloc_at _ _) | exact news_blk #[.int .i64 k1, .string s1, .slice a1 n1 c9, .slice A1 m1 q1] (alloc_at1 _ _ _) | exact news_blk #[.int .i64 k1, .string s1, .slice a1 n1 c9, .slice A1 m1 q1] (alloc_at0 _ _ _) | exact news_blk #[.int .i64 k1, .string s1, .slice a1 n1 c9, .slice A1 m1 q1] ((hgS.block _ (by simp <;> omega) (fun e => by have := hu7 _ e.symm; omega)).trans (alloc_at _ _)) | exact news_blk #[.int .i64 k1, .string s1, .slice a1 n1 c9, .slice A1 m1 q1] ((hgS.block _ (by simp <;> omega) (fun e => by have := hu7 _ e.symm; omega)).trans (alloc_at1 _ _ _)) | exact news_blk #[.int .i64 k1, .string s1, .slice a1 n1 c9, .slice A1 m1 q1] ((hgS.block _ (by simp <;> omega) (fun e => by have := hu7 _ e.symm; omega)).trans (alloc_at0 _ _ _))) (four_one _ _ _ _ _ _ _ _) (by unfold maxLen; omega) (by omega) (by first | exact hP.2.1 | exact (hP.alloc _).2.1 | exact ((hP.alloc _).alloc _).2.1) ?_; intro v'' w4 hownN hgN hnilN; have hP := PR.nextN (by first | exact hP | exact hP.alloc _ | exact (hP.alloc _).alloc _) hownN hgN))
          all_goals
            go_wp2_with fail
            go_meet
            exact HFIN.out _ _ _ hP
        case rest =>
          have HST3 := Lib.hid hcut
          clear hcut hP HFIN
          obtain ⟨hB4, hS9, qs9, hN9⟩ := HST3.out
          obtain ⟨ha, hcp, rfl, -, -⟩ := rd_slice (rd_of_owns hS9)
          obtain ⟨hA, hcq, rfl, -, -⟩ := (hN9.kd hB4.small).shape
          clear hB4 hS9 hN9
          have HD := Lib.hid HST3.out.done
          obtain ⟨z0, z1, z2, z3⟩ := HST3.out.1.2.2.2.1.cells
          obtain ⟨fz0, fz1, fz2, fz3⟩ := HST3.out.1.2.2.2.1.frozen
          generalize (ks ++ [x.data.toList]).length = M at *
          generalize (ds ++ [dv]).length = N at *
          go_wp2
          refine bodyPost_ret (v := .agg #[.int .i64 3, .string ⟨#[]⟩, .slice ha M hcp, .slice hA N hcq]) (by simp [results, Try.results18, go_sem, z0, z1, z2, z3]) rfl ⟨_, _, _, _, rfl, by rw [HW.out]; exact HD.out.1, HD.out.2⟩
  · have hS1 : SX w W0.drew (.slice a n c) (.slice A m q) (Bx3 w W0.drew (.mk 3 [] ks ds) dv (.int .i64 3) (.string s) (.slice a n c) (.slice A m q) (.int .i64 k1) (.string s1) (.slice a1 n1 c9) (.slice A1 m1 q1)) := ⟨x2, x3, HB.out.go (below_drew _)⟩
    go_enter Try.func18, Try.ntmps18
    go_upto_region 3 with fail
    go_cut [7, 8] from 19 to 24 (fun s7 s8 W => WithSt w W (.mk 3 [] ks ds) dv (.int .i64 3) (.string s) (.slice a n c) (.slice A m q) (.int .i64 k1) (.string s1) (.slice a1 n1 c9) (.slice A1 m1 q1) s7 s8 ks ds)
    case first =>
      obtain ⟨g2, g3, hS0⟩ := hS1
      have HB0 := Lib.hid hS0
      go_region_held3 (fun W => W.cell? ⟨w.heap.size, 2, none⟩ = some (.slice a n c) ∧ W.cell? ⟨w.heap.size, 3, none⟩ = some (.slice A m q)) (first | exact ⟨g2, g3⟩ | assumption)
        (first
          | (go_at_call 40; refine (HCS.out _ (NdC.rd (by first | exact HB0.out.2.2.2.2.1 | exact HBN.out.2.2.2.2.1) (by first | exact HB0.out.small | exact HBN.out.small))).mono ?_; rintro e w2 ⟨s7, rfl, hoS, hbS⟩; have HBS := Lib.hid (Bx3.go (by first | exact HB0.out | exact HBN.out) hbS); have hcS := HBS.out.2.1.cells.2.2)
          | (go_at_call 41; refine (HCN.out _ (by first | exact HB0.out.small | exact HBS.out.small) (NdC.kdS (by first | exact HB0.out.2.2.2.2.1 | exact HBS.out.2.2.2.2.1))).mono ?_; rintro e w3 ⟨s8, rfl, ⟨qs, hoN⟩, hbN⟩; have HBN := Lib.hid (Bx3.go (by first | exact HB0.out | exact HBS.out) hbN); have hcN := HBN.out.2.1.cells.2.2))
      all_goals
        go_wp2_with fail
        go_meet
        first
          | exact ⟨HBN.out, owns_low (owns_below hoS hbN) HB0.out.size, qs, hoN.low HBS.out.size⟩
          | exact ⟨HBS.out, owns_low hoS HBN.out.size, qs, (hoN.below HB0.out.small hbS).low HB0.out.size⟩
    case rest =>
      have HST := Lib.hid hcut
      clear hS1 hcut HCS HCN hW0 HB x0 x1 x2 x3
      obtain ⟨x0, x1, x2, x3⟩ := HST.out.1.2.1.cells
      go_wp2_with fail
      refine (HFI.out _ (HST.out.1.2.2.2.2.1.all HST.out.1.small)).mono ?_
      rintro e w2 ⟨r, rfl, hfk, hb2⟩
      have HST2 := Lib.hid (HST.out.go hb2)
      clear hb2 HST x0 x1 x2 x3
      cases hfk with
      | yes j hk3 hj hdj he hn hg =>
        have hdj' : j < ds.length := hdj
        have HW : Hid (withT (.mk 3 [] ks ds) x.data.toList dv = .mk 3 [] ks (ds.set j dv)) := Lib.hid (with_at HF.out rfl hj he)
        obtain ⟨hB3, hS7, qs, hN8⟩ := HST2.out
        obtain ⟨g, cap, rfl, hBg, hgs, hcap, hcm⟩ := hN8.form (Nat.lt_of_le_of_lt (Nat.zero_le _) hdj')
        obtain ⟨⟨e0, e1, e2, e3, y0, y1, y2, y3, -⟩, f0, f1, f2, f3⟩ := hN8.at_ rfl j hdj'
        have HST3 : Hid (WithSt w (put4at w2 g (j * 4) (.int .i64 k1) (.string s1) (.slice a1 n1 c9) (.slice A1 m1 q1)) (.mk 3 [] ks ds) dv (.int .i64 3) (.string s) (.slice a n c) (.slice A m q) (.int .i64 k1) (.string s1) (.slice a1 n1 c9) (.slice A1 m1 q1) u7 (.slice (some ⟨g, 0, none⟩) ds.length cap) ks (ds.set j dv)) := Lib.hid (by
          have hfar : Below (w.heap.size + 3) w2 (put4at w2 g (j * 4) (.int .i64 k1) (.string s1) (.slice a1 n1 c9) (.slice A1 m1 q1)) := below_put4at (Below.refl _ _) hBg _ _ _ _
          refine ⟨hB3.far hfar, owns_keep hS7 fun g' hg' => put4at_oth g' ?_ _ _ _ _, qs.set j ⟨.int .i64 k1, .string s1, .slice a1 n1 c9, .slice A1 m1 q1⟩, ?_⟩
          · rintro rfl
            exact owns_apart hS7 hN8.1 (by decide) hg' rfl
          · have := hN8.stored rfl (fun b hb => by have : b < w.heap.size := hb; omega) j hdj' dv ⟨.int .i64 k1, .string s1, .slice a1 n1 c9, .slice A1 m1 q1⟩ hB3.2.2.2.2.2
            exact this)
        obtain ⟨b0, b1, b2, b3⟩ := hB3.2.2.1.cells
        have hjz : (j : Int) < (ds.length : Int) := by omega
        have gj : (0 : Int) ≤ (j : Int) := by omega
        have hm := hN8.2.1
        clear hB3 hS7 hN8 HST2 hm hg he hn hj hdj HFI
        have hdn : ds.length ≤ 10000 := HCNT.out.1
        generalize ds.length = N at *
        go_upto_region 8 with fail
        unfold put4at at HST3
        generalize (((w2.setCell ⟨g, j * 4, none⟩ (.int .i64 k1)).setCell ⟨g, j * 4 + 1, none⟩ (.string s1)).setCell ⟨g, j * 4 + 2, none⟩ (.slice a1 n1 c9)).setCell ⟨g, j * 4 + 3, none⟩ (.slice A1 m1 q1) = W3 at *
        obtain ⟨ha, hcp, rfl, -, -⟩ := rd_slice (rd_of_owns HST3.out.2.1)
        have HD := Lib.hid HST3.out.done
        obtain ⟨z0, z1, z2, z3⟩ := HST3.out.1.2.2.2.1.cells
        obtain ⟨fz0, fz1, fz2, fz3⟩ := HST3.out.1.2.2.2.1.frozen
        generalize ks.length = M at *
        go_wp2
        refine bodyPost_ret (v := .agg #[.int .i64 3, .string ⟨#[]⟩, .slice ha M hcp, .slice (some ⟨g, 0, none⟩) N cap]) (by simp [results, Try.results18, go_sem, z0, z1, z2, z3]) rfl ⟨_, _, _, _, rfl, by rw [HW.out]; exact HD.out.1, HD.out.2⟩
      | no hg hno =>
        have hnot : x.data.toList ∉ ks := fun h => by obtain ⟨i, hi, e⟩ := List.mem_iff_getElem.1 h; exact hno rfl i hi e
        have HW : Hid (withT (.mk 3 [] ks ds) x.data.toList dv = .mk 3 [] (ks ++ [x.data.toList]) (ds ++ [dv])) := Lib.hid (with_no HF.out (.inr rfl) hnot)
        obtain ⟨hB3, hS7, qs, hN8⟩ := HST2.out
        obtain ⟨b0, b1, b2, b3⟩ := hB3.2.2.1.cells
        have hP : PR (w.heap.size + 3) w2 w2.drew u7 ks.length (ks.map encStr) u8 ds.length (flat4 qs) := ⟨(Below.refl _ _).drew, hB3.size, hS7, hN8.1⟩
        have HB3 := Lib.hid hB3
        have HQ := Lib.hid hN8.2
        have HFIN := Lib.hid (fun W s7 s8 => with_final (W := W) (s7 := s7) (s8 := s8) (x := x) (ks := ks) hB3 hN8.2.1 hN8.2.2)
        have hC4 : Cells4b (w.heap.size + 1) (.int .i64 k1) (.string s1) (.slice a1 n1 c9) (.slice A1 m1 q1) w2.drew := ⟨hB3.2.2.1.lt, b0, b1, b2, b3⟩
        obtain ⟨i0, hi, hz0, hz1, hz2⟩ := infoS
        obtain ⟨j0, hj, hy0, hy1, hy2⟩ := infoN
        have hu7 : ∀ g, u7.ownBlock = some g → w.heap.size + 3 ≤ g ∧ g < w2.heap.size := fun g h => hS7.lt g h
        have hu8 : ∀ g, u8.ownBlock = some g → w.heap.size + 3 ≤ g ∧ g < w2.heap.size := fun g h => hN8.1.lt g h
        have hn7 : u7.ownBlock ≠ some (w.heap.size + 1) := fun e => by have := hu7 _ e; omega
        have hn8 : u8.ownBlock ≠ some (w.heap.size + 1) := fun e => by have := hu8 _ e; omega
        have hl1 := HCNT.out.1
        have hl2 := HCNT.out.2
        generalize ks.map encStr = X7 at hP HFIN
        generalize flat4 qs = X8 at hP HFIN
        generalize ks.length = N7 at hP HFIN hl2
        generalize ds.length = N8 at hP HFIN hl1
        clear hS7 hN8 HST2 hg hnot hno hB3 HQ HCNT HFI
        go_upto_region 7 with fail
        go_cut [7, 8] from 34 to 41 (fun s7 s8 W => WithSt w W (.mk 3 [] ks ds) dv (.int .i64 3) (.string s) (.slice a n c) (.slice A m q) (.int .i64 k1) (.string s1) (.slice a1 n1 c9) (.slice A1 m1 q1) s7 s8 (ks ++ [x.data.toList]) (ds ++ [dv]))
        case first =>
          go_region_held3 (fun W => w.heap.size + 1 < W.heap.size ∧ W.cell? ⟨w.heap.size + 1, 0, none⟩ = some (.int .i64 k1) ∧ W.cell? ⟨w.heap.size + 1, 1, none⟩ = some (.string s1) ∧ W.cell? ⟨w.heap.size + 1, 2, none⟩ = some (.slice a1 n1 c9) ∧ W.cell? ⟨w.heap.size + 1, 3, none⟩ = some (.slice A1 m1 q1))
            (first | exact hC4 | assumption | exact keepD_alloc (by assumption) | exact keepD_grown (by assumption) hn7 (by assumption) | exact keepD_grown (by assumption) hn8 (by assumption))
            (first
              | (refine step_append_own rfl _ _ 22 rfl (w.heap.size + 3) 9 i0 _ 1 16 Try.underlying22 hi hz0 hz1 hz2 rfl (by decide) u7 N7 X7 rfl (by first | exact hP.2.2.1 | exact (hP.alloc _).2.2.1 | exact ((hP.alloc _).alloc _).2.2.1) _ 1 1 [.string x] rfl rfl (by first | exact news_blk #[.string x] (alloc_at _ _) | exact news_blk #[.string x] (alloc_at1 _ _ _) | exact news_blk #[.string x] (alloc_at0 _ _ _) | exact news_blk #[.string x] ((hgN.block _ (by simp <;> omega) (fun e => by have := hu8 _ e.symm; omega)).trans (alloc_at _ _)) | exact news_blk #[.string x] ((hgN.block _ (by simp <;> omega) (fun e => by have := hu8 _ e.symm; omega)).trans (alloc_at1 _ _ _)) | exact news_blk #[.string x] ((hgN.block _ (by simp <;> omega) (fun e => by have := hu8 _ e.symm; omega)).trans (alloc_at0 _ _ _))) (one_str x) (by unfold maxLen; omega) (by omega) (by first | exact hP.2.1 | exact (hP.alloc _).2.1 | exact ((hP.alloc _).alloc _).2.1) ?_; intro v' w3 hownS hgS hnilS; have hP := PR.nextS (by first | exact hP | exact hP.alloc _ | exact (hP.alloc _).alloc _) hownS hgS)
              | (refine step_append_own rfl _ _ 23 rfl (w.heap.size + 3) 25 j0 _ 4 72 Try.underlying23 hj hy0 hy1 hy2 rfl (by decide) u8 N8 X8 rfl (by first | exact hP.2.2.2 | exact (hP.alloc _).2.2.2 | exact ((hP.alloc _).alloc _).2.2.2) _ 1 1 [.int .i64 k1, .string s1, .slice a1 n1 c9, .slice A1 m1 q1] rfl rfl (by first | exact news_blk #[.int .i64 k1, .string s1, .slice a1 n1 c9, .slice A1 m1 q1] (alloc_at _ _) | exact news_blk #[.int .i64 k1, .string s1, .slice a1 n1 c9, .slice A1 m1 q1] (alloc_at1 _ _ _) | exact news_blk #[.int .i64 k1, .string s1, .slice a1 n1 c9, .slice A1 m1 q1] (alloc_at0 _ _ _) | exact news_blk #[.int .i64 k1, .string s1, .slice a1 n1 c9, .slice A1 m1 q1] ((hgS.block _ (by simp <;> omega) (fun e => by have := hu7 _ e.symm; omega)).trans (alloc_at _ _)) | exact news_blk #[.int .i64 k1, .string s1, .slice a1 n1 c9, .slice A1 m1 q1] ((hgS.block _ (by simp <;> omega) (fun e => by have := hu7 _ e.symm; omega)).trans (alloc_at1 _ _ _)) | exact news_blk #[.int .i64 k1, .string s1, .slice a1 n1 c9, .slice A1 m1 q1] ((hgS.block _ (by simp <;> omega) (fun e => by have := hu7 _ e.symm; omega)).trans (alloc_at0 _ _ _))) (four_one _ _ _ _ _ _ _ _) (by unfold maxLen; omega) (by omega) (by first | exact hP.2.1 | exact (hP.alloc _).2.1 | exact ((hP.alloc _).alloc _).2.1) ?_; intro v'' w4 hownN hgN hnilN; have hP := PR.nextN (by first | exact hP | exact hP.alloc _ | exact (hP.alloc _).alloc _) hownN hgN))
          all_goals
            go_wp2_with fail
            go_meet
            exact HFIN.out _ _ _ hP
        case rest =>
          have HST3 := Lib.hid hcut
          clear hcut hP HFIN
          obtain ⟨hB4, hS9, qs9, hN9⟩ := HST3.out
          obtain ⟨ha, hcp, rfl, -, -⟩ := rd_slice (rd_of_owns hS9)
          obtain ⟨hA, hcq, rfl, -, -⟩ := (hN9.kd hB4.small).shape
          clear hB4 hS9 hN9
          have HD := Lib.hid HST3.out.done
          obtain ⟨z0, z1, z2, z3⟩ := HST3.out.1.2.2.2.1.cells
          obtain ⟨fz0, fz1, fz2, fz3⟩ := HST3.out.1.2.2.2.1.frozen
          generalize (ks ++ [x.data.toList]).length = M at *
          generalize (ds ++ [dv]).length = N at *
          go_wp2
          refine bodyPost_ret (v := .agg #[.int .i64 3, .string ⟨#[]⟩, .slice ha M hcp, .slice hA N hcq]) (by simp [results, Try.results18, go_sem, z0, z1, z2, z3]) rfl ⟨_, _, _, _, rfl, by rw [HW.out]; exact HD.out.1, HD.out.2⟩
end Go.Proofs.Ytgingebdoppdbaa
