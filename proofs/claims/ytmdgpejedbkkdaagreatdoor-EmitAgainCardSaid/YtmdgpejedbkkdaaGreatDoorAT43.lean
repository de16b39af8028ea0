/- BloOrd, BloRdG -/
import Derived.StillTail
import Derived.Test.YtmdgpejedbkkdaaGreatDoorAT42
import Derived.Test.YtmdgpejedbkkdaaGreatDoorAT9
set_option linter.unusedVariables false
set_option linter.unusedSimpArgs false
set_option maxRecDepth 100000
set_option maxHeartbeats 16000000
namespace Go.Proofs.YtmdgpejedbkkdaaGreatDoor
section
open Go.RowKit Go.Sort
section
variable {P : Program} {ops : Array Oper} {Q : Exit → Act → World → Prop} {md : Region.Mode} {S : World → Prop} {s : Nat}
def wpTill (P : Program) (md : Region.Mode) (ops : Array Oper) (Q : Exit → Act → World → Prop) (S : World → Prop) (s : Nat) : Nat → Array Bool → Act → World → Prop
 | 0, listed, a, w => Region.ready md ops listed = [] ∧ Q .normal a w
 | fuel + 1, listed, a, w =>
  (Region.ready md ops listed = [] → Q .normal a w) ∧
  ∀ i ∈ Region.ready md ops listed, wpOp P ops Q i (fun a' w' => ((listed.setIfInBounds i true).getD s true = false → S w') ∧ wpTill P md ops Q S s fuel (listed.setIfInBounds i true) a' w') a w
theorem till_any : ∀ (fuel : Nat) (listed : Array Bool) (a : Act) (w : World), wpTill P md ops Q S s fuel listed a w → wpAny P md ops Q fuel listed a w
 | 0, _, _, _, h => h
 | fuel + 1, _, _, _, h => ⟨h.1, fun i hi => wpOp_mono (fun a' w' h' => till_any fuel _ a' w' h'.2) (h.2 i hi)⟩
theorem ready_open {j : Nat} {listed : Array Bool} (h : j ∈ Region.ready md ops listed) : listed.getD j true = false := (mem_ready.1 h).1
theorem ready_free {i j : Nat} {listed : Array Bool} (hi : i ∈ Region.ready md ops listed) (hj : j ∈ Region.ready md ops listed) : ∃ oj, ops[j]? = some oj ∧ ∀ e ∈ oj.after, Region.binds md e = true → e.on ≠ i := by
 obtain ⟨-, oj, hoj, hall⟩ := mem_ready.1 hj
 refine ⟨oj, hoj, fun e he hb heq => ?_⟩
 have h1 := hall e he hb
 have h2 := getD_both (ready_open hi)
 rw [heq, h2] at h1
 cases h1
def chainW (md : Region.Mode) (ops : Array Oper) : Nat → List Nat → Bool
 | _, [] => true
 | i, k :: r => Region.waitsFor md ops k i && chainW md ops k r
theorem chain_off {listed : Array Bool} : ∀ (ps : List Nat) (i : Nat), chainW md ops i ps = true → listed.getD i true = false → (∀ k ∈ ps, listed.getD k true = false) → ∀ k ∈ ps, k ∉ Region.ready md ops listed
 | k :: r, i, hc, hi, hu, j, hj => by
  unfold chainW at hc
  rw [Bool.and_eq_true] at hc
  rcases List.mem_cons.1 hj with rfl | hj
  ·intro hr
   obtain ⟨oj, hoj, e, he, hb, hon⟩ := Region.waitsFor_spec hc.1
   obtain ⟨-, ok, hok, hall⟩ := mem_ready.1 hr
   rw [hoj] at hok
   injection hok with hok
   subst hok
   have h1 := hall e he hb
   rw [hon, getD_both hi] at h1
   cases h1
  ·exact chain_off r k hc.2 (hu k List.mem_cons_self) (fun m hm => hu m (List.mem_cons_of_mem _ hm)) j hj
theorem till_first {i : Nat} {oi : Oper} {v : Value} (ps : List Nat) (hi : ops[i]? = some oi) (hsel : ∀ (j : Nat) (o : Oper) cs b, ops[j]? = some o → o.op ≠ .select cs b)
  (hQ : ∀ c a w, Q (.panic c) (a.put oi.dst v) w → Q (.panic c) a w) (hc : chainW md ops i ps = true) (hsp : s ∈ ps) (hip : i ∉ ps) :
  ∀ (fuel : Nat) (listed : Array Bool) (a : Act) (w : World),
   (∀ j oj, ops[j]? = some oj → j ≠ i → listed.getD j true = false → (∀ e ∈ oj.after, Region.binds md e = true → e.on ≠ i) → oi.apart ops oj = true) →
   i ∈ Region.ready md ops listed → (∀ k ∈ ps, listed.getD k true = false) → YieldsIf P ops S oi v a → S w →
   wpTill P md ops Q S s fuel (listed.setIfInBounds i true) (a.put oi.dst v) w → wpTill P md ops Q S s (fuel + 1) listed a w := by
 intro fuel
 induction fuel with
 | zero =>
  intro listed a w _ hr hu hy hS H
  refine ⟨fun h => (by rw [h] at hr; cases hr), fun j hj => ?_⟩
  rcases Decidable.em (j = i) with rfl | hne
  ·exact hy.wpOp hi hS ⟨fun _ => hS, H⟩
  ·have h0 := ready_mono hj hne
   rw [H.1] at h0
   cases h0
 | succ fuel ih =>
  intro listed a w hap hr hu hy hS H
  refine ⟨fun h => (by rw [h] at hr; cases hr), fun j hj => ?_⟩
  rcases Decidable.em (j = i) with rfl | hne
  ·exact hy.wpOp hi hS ⟨fun _ => hS, H⟩
  ·obtain ⟨oj, hoj, hno⟩ := ready_free hr hj
   have hjo := ready_open hj
   have hjp : ∀ k ∈ ps, j ≠ k := fun k hk e => chain_off ps i hc (ready_open hr) hu k hk (e ▸ hj)
   have hus : ∀ (l : Array Bool) (q k : Nat), q ≠ k → l.getD k true = false → (l.setIfInBounds q true).getD k true = false := fun l q k hk hl => by rw [getD_set_ne true hk]; exact hl
   have hne2 : i ≠ s := fun e => hip (e ▸ hsp)
   refine wpOp_mono (fun a' w' h3 => ?_) (wpOp_putIf hoj (hap j oj hoj hne hjo hno) (fun cs b => hsel i oi cs b hi) (fun cs b => hsel j oj cs b hoj) hQ hy (H.2 j (ready_mono hj hne)))
   have hS' : S w' := h3.2.1 (hus _ j s (hjp s hsp) (hus _ i s hne2 (hu s hsp)))
   refine ⟨fun _ => hS', ih _ a' w' (fun k ok hk hki hun hn => hap k ok hk hki ?_ hn) (ready_mono hr (Ne.symm hne)) (fun k hk => hus _ j k (hjp k hk) (hu k hk)) h3.1 hS' ?_⟩
   ·rcases Decidable.em (j = k) with rfl | hjk
    ·exact hjo
    ·rwa [getD_set_ne true hjk] at hun
   ·have h4 := h3.2.2
    rwa [Array.setIfInBounds_comm _ _ (Ne.symm hne)] at h4
theorem till_take (i : Nat) (ps : List Nat) (v : Value) {fuel : Nat} {listed : Array Bool} {a : Act} {w : World} (hs : Region.noSelect ops = true) (hf : Region.free md ops listed i = true) (hr : (Region.ready md ops listed).contains i = true)
  (hw : chainW md ops i ps = true) (hu : (ps.contains s && !ps.contains i && ps.all fun k => !listed.getD k true) = true) (hQ : ∀ d c a w, Q (.panic c) (a.put d v) w → Q (.panic c) a w) (hS : S w)
  (ho : match ops[i]? with | some o => YieldsIf P ops S o v a ∧ wpTill P md ops Q S s fuel (listed.setIfInBounds i true) (a.put o.dst v) w | none => False) : wpTill P md ops Q S s (fuel + 1) listed a w := by
 rw [Bool.and_eq_true, Bool.and_eq_true] at hu
 obtain ⟨⟨h1, h2⟩, h3⟩ := hu
 cases hi : ops[i]? with
 | none => rw [hi] at ho; exact ho.elim
 | some oi =>
  rw [hi] at ho
  refine till_first ps hi (Region.noSelect_spec hs) (hQ oi.dst) hw (by simpa using h1) (by simpa using h2) fuel listed a w (Region.free_spec hi hf) (by simpa using hr) (fun k hk => ?_) ho.1 hS ho.2
  have := List.all_eq_true.1 h3 k hk
  simpa using this
theorem till_one (i : Nat) {fuel : Nat} {listed : Array Bool} {a : Act} {w : World} (hr : Region.ready md ops listed = [i])
  (h : wpOp P ops Q i (fun a' w' => ((listed.setIfInBounds i true).getD s true = false → S w') ∧ wpTill P md ops Q S s fuel (listed.setIfInBounds i true) a' w') a w) : wpTill P md ops Q S s (fuel + 1) listed a w :=
 ⟨fun h0 => (by rw [hr] at h0; cases h0), fun j hj => by rw [hr, List.mem_singleton] at hj; subst hj; exact h⟩
theorem till_two (i k : Nat) {fuel : Nat} {listed : Array Bool} {a : Act} {w : World} (hr : Region.ready md ops listed = [i, k])
  (h : wpOp P ops Q i (fun a' w' => ((listed.setIfInBounds i true).getD s true = false → S w') ∧ wpTill P md ops Q S s fuel (listed.setIfInBounds i true) a' w') a w)
  (g : wpOp P ops Q k (fun a' w' => ((listed.setIfInBounds k true).getD s true = false → S w') ∧ wpTill P md ops Q S s fuel (listed.setIfInBounds k true) a' w') a w) : wpTill P md ops Q S s (fuel + 1) listed a w :=
 ⟨fun h0 => (by rw [hr] at h0; cases h0), fun j hj => by
  rw [hr] at hj
  rcases List.mem_cons.1 hj with rfl | hj
  ·exact h
  ·rw [List.mem_singleton] at hj; subst hj; exact g⟩
theorem till_done {listed : Array Bool} {a : Act} {w : World} (hr : Region.ready md ops listed = []) (h : Q .normal a w) : ∀ fuel, wpTill P md ops Q S s fuel listed a w
 | 0 => ⟨hr, h⟩
 | _ + 1 => ⟨fun _ => h, by rw [hr]; simp⟩
theorem till_step {i : Nat} {fuel : Nat} {listed : Array Bool} {a : Act} {w : World} (hi : (ops[i]?).isSome = true)
  (ho : ∀ o, ops[i]? = some o → ∀ K' : Act → World → Prop, Shut (∀ a w, ((listed.setIfInBounds i true).getD s true = false → S w) → wpTill P md ops Q S s fuel (listed.setIfInBounds i true) a w → K' a w) → if Region.wanted o (yielded ops a.tmps) = true then Oper.wp P o a w K' Q else K' (a.put o.dst undef) w) :
  wpOp P ops Q i (fun a' w' => ((listed.setIfInBounds i true).getD s true = false → S w') ∧ wpTill P md ops Q S s fuel (listed.setIfInBounds i true) a' w') a w := by
 obtain ⟨o, hi⟩ := Option.isSome_iff_exists.1 hi
 exact wpOp_step hi fun K' hK => ho o hi K' fun a w h1 h2 => hK a w ⟨h1, h2⟩
theorem wp_region_till (s : Nat) (S : World → Prop) {id : Nat} {a : Act} {w : World} (hm : P.follows .mixedOrders = true) (h : wpTill P .any ops Q S s ops.size (Array.replicate ops.size false) a w.drew) : (Code.region id ops true).wp P Q a w :=
 wp_region_any hm (till_any _ _ _ _ h)
end
end
section
open Go.RowKit Go.Sort
open Nw N8 Q6 F9 B10 Go.ChangeShapes Go.WideShapes
def MB (w W : World) (u v : Value) (b : Nat) : Prop := w.heap.size + 2 ≤ b ∧ b < W.heap.size ∧ u.ownBlock ≠ some b ∧ v.ownBlock ≠ some b
def MQ (w0 : World) (g : Nat) (sl : Value) (n : Nat) (M : List Ln) (p lvl : Nat) (T : Res) (w W : World) (kv dv : Value) (M1 : List Ln) (p1 : Nat) (ks : List L8) (ds : List Nd) (qs : List Q4) : Prop :=
 (RD w0 g sl n w M p ∧ RD w0 g sl n W M1 p1 ∧ KP g sl w W ∧ Row4 W w.heap.size 25 (.int .i64 0) (.string ⟨#[]⟩) (.slice none 0 0) (.slice none 0 0) ∧ Row4 W (w.heap.size + 1) 25 (.int .i64 3) (.string ⟨#[]⟩) kv dv) ∧
  (p ≤ p1 ∧ ds.length ≤ p1 ∧ ks.length = ds.length ∧ M1.drop p1 = M.drop p1) ∧ MapI lvl T ks ds (p1 - p) (M1.drop p1) ∧ W.ownsRow (w.heap.size + 2) 9 1 kv ks.length (ks.map encStr) ∧ KO (MB w W kv dv) (w.heap.size + 2) W dv qs ds
def PM (B : Nat) (W0 : World) (u v : Value) (W : World) (s : Value) (n : Nat) (xs : List Value) (t : Value) (m : Nat) (ys : List Value) : Prop :=
 (W.os = W0.os ∧ W.tape = W0.tape ∧ W.output = W0.output ∧ W0.heap.size ≤ W.heap.size ∧ B ≤ W0.heap.size) ∧ (∀ k, k < W0.heap.size → u.ownBlock ≠ some k → v.ownBlock ≠ some k → W.heap[k]? = W0.heap[k]?) ∧
  W.ownsRow B 9 1 s n xs ∧ W.ownsRow B 25 4 t m ys ∧ (∀ k, s.ownBlock = some k → u.ownBlock = some k ∨ W0.heap.size ≤ k) ∧ (∀ k, t.ownBlock = some k → v.ownBlock = some k ∨ W0.heap.size ≤ k)
section
variable {B : Nat} {W0 W W' : World} {u v s s' t t' : Value} {n n' m m' : Nat} {xs xs' ys ys' : List Value}
theorem PM.start (hB : B ≤ W0.heap.size) (hs : W0.ownsRow B 9 1 u n xs) (ht : W0.ownsRow B 25 4 v m ys) : PM B W0 u v W0.drew u n xs v m ys :=
 ⟨⟨rfl, rfl, rfl, Nat.le_refl _, hB⟩, fun _ _ _ _ => rfl, hs, ht, fun k hk => .inl hk, fun k hk => .inl hk⟩
theorem PM.alloc (h : PM B W0 u v W s n xs t m ys) (o : Obj) : PM B W0 u v (W.alloc o) s n xs t m ys := by
 obtain ⟨⟨a1, a2, a3, a4, a5⟩, b, c, d, e, f⟩ := h
 exact ⟨⟨a1, a2, a3, by simp; omega, a5⟩, fun k hk h1 h2 => (Below.heap_alloc W o k (by omega)).trans (b k hk h1 h2), c.alloc o, d.alloc o, e, f⟩
theorem PM.base (h : PM B W0 u v W s n xs t m ys) : B ≤ W.heap.size := by have := h.1.2.2.2; omega
theorem PM.nextS (h : PM B W0 u v W s n xs t m ys) (hs : W'.ownsRow B 9 1 s' n' xs') (hg : W.grownBy W' s.ownBlock) (hk : s'.ownBlock = s.ownBlock ∨ s'.ownBlock = some W.heap.size) : PM B W0 u v W' s' n' xs' t m ys := by
 obtain ⟨⟨a1, a2, a3, a4, a5⟩, b, c, d, e, f⟩ := h
 refine ⟨⟨hg.os.trans a1, hg.tape.trans a2, hg.output.trans a3, Nat.le_trans a4 hg.size, a5⟩, fun k hk1 h1 h2 => (hg.block k (by omega) fun e1 => ?_).trans (b k hk1 h1 h2), hs, owns_keep d fun g hgv => hg.block g (d.lt g hgv).2 fun e1 => owns_apart d c (by decide) hgv e1.symm, fun k hk1 => ?_, f⟩
 ·rcases e k e1.symm with h3 | h3
  ·exact h1 h3
  ·omega
 ·rcases hk with hk | hk
  ·exact e k (hk.symm.trans hk1)
  ·rw [hk] at hk1; injection hk1 with hk1; exact .inr (by omega)
theorem PM.nextN (h : PM B W0 u v W s n xs t m ys) (hs : W'.ownsRow B 25 4 t' m' ys') (hg : W.grownBy W' t.ownBlock) (hk : t'.ownBlock = t.ownBlock ∨ t'.ownBlock = some W.heap.size) : PM B W0 u v W' s n xs t' m' ys' := by
 obtain ⟨⟨a1, a2, a3, a4, a5⟩, b, c, d, e, f⟩ := h
 refine ⟨⟨hg.os.trans a1, hg.tape.trans a2, hg.output.trans a3, Nat.le_trans a4 hg.size, a5⟩, fun k hk1 h1 h2 => (hg.block k (by omega) fun e1 => ?_).trans (b k hk1 h1 h2), owns_keep c fun g hgv => hg.block g (c.lt g hgv).2 fun e1 => owns_apart c d (by decide) hgv e1.symm, hs, e, fun k hk1 => ?_⟩
 ·rcases f k e1.symm with h3 | h3
  ·exact h2 h3
  ·omega
 ·rcases hk with hk | hk
  ·exact f k (hk.symm.trans hk1)
  ·rw [hk] at hk1; injection hk1 with hk1; exact .inr (by omega)
end
def CM (mb kb : Nat) (kv dv c0 c1 c2 c3 : Value) (W : World) : Prop :=
 (mb < W.heap.size ∧ kb < W.heap.size) ∧ (W.cell? ⟨mb, 2, none⟩ = some kv ∧ W.cell? ⟨mb, 3, none⟩ = some dv) ∧ (W.frozen? ⟨mb, 2, none⟩ = false ∧ W.frozen? ⟨mb, 3, none⟩ = false) ∧
  W.cell? ⟨kb, 0, none⟩ = some c0 ∧ W.cell? ⟨kb, 1, none⟩ = some c1 ∧ W.cell? ⟨kb, 2, none⟩ = some c2 ∧ W.cell? ⟨kb, 3, none⟩ = some c3
theorem CM.of {mb kb : Nat} {kv dv c0 c1 c2 c3 a b : Value} {W : World} (hm : Row4 W mb 25 a b kv dv) (hk : Row4 W kb 25 c0 c1 c2 c3) : CM mb kb kv dv c0 c1 c2 c3 W := by
 obtain ⟨-, -, h2, h3⟩ := hm.cells
 obtain ⟨-, -, f2, f3⟩ := hm.frozen
 exact ⟨⟨hm.lt, hk.lt⟩, ⟨h2, h3⟩, ⟨f2, f3⟩, hk.cells⟩
theorem CM.keep {mb kb : Nat} {kv dv c0 c1 c2 c3 : Value} {W W' : World} (h : CM mb kb kv dv c0 c1 c2 c3 W) (hs : W.heap.size ≤ W'.heap.size) (h1 : W'.heap[mb]? = W.heap[mb]?) (h2 : W'.heap[kb]? = W.heap[kb]?) : CM mb kb kv dv c0 c1 c2 c3 W' := by
 obtain ⟨⟨a1, a2⟩, ⟨b1, b2⟩, ⟨c1', c2'⟩, d1, d2, d3, d4⟩ := h
 exact ⟨⟨by omega, by omega⟩, ⟨(World.cell?_of_block (a := ⟨mb, 2, none⟩) h1).trans b1, (World.cell?_of_block (a := ⟨mb, 3, none⟩) h1).trans b2⟩, ⟨(World.frozen?_of_block (a := ⟨mb, 2, none⟩) h1).trans c1', (World.frozen?_of_block (a := ⟨mb, 3, none⟩) h1).trans c2'⟩,
  (World.cell?_of_block (a := ⟨kb, 0, none⟩) h2).trans d1, (World.cell?_of_block (a := ⟨kb, 1, none⟩) h2).trans d2, (World.cell?_of_block (a := ⟨kb, 2, none⟩) h2).trans d3, (World.cell?_of_block (a := ⟨kb, 3, none⟩) h2).trans d4⟩
theorem CM.alloc {mb kb : Nat} {kv dv c0 c1 c2 c3 : Value} {W : World} (h : CM mb kb kv dv c0 c1 c2 c3 W) (o : Obj) : CM mb kb kv dv c0 c1 c2 c3 (W.alloc o) :=
 h.keep (by simp) (Below.heap_alloc W o mb h.1.1) (Below.heap_alloc W o kb h.1.2)
theorem CM.grown {mb kb : Nat} {kv dv c0 c1 c2 c3 : Value} {W W' : World} {row : Option Nat} (h : CM mb kb kv dv c0 c1 c2 c3 W) (hg : W.grownBy W' row) (h1 : row ≠ some mb) (h2 : row ≠ some kb) : CM mb kb kv dv c0 c1 c2 c3 W' :=
 h.keep hg.size (hg.block mb h.1.1 fun e => h1 e.symm) (hg.block kb h.1.2 fun e => h2 e.symm)
def p2 (w : World) (b : Nat) (x y : Value) : World := (w.setCell ⟨b, 2, none⟩ x).setCell ⟨b, 3, none⟩ y
theorem p2_oth (w : World) (b : Nat) (x y : Value) (k : Nat) (hk : k ≠ b) : (p2 w b x y).heap[k]? = w.heap[k]? := by
 unfold p2
 rw [set_oth _ _ _ _ (by exact hk), set_oth _ _ _ _ (by exact hk)]
theorem p2_size (w : World) (b : Nat) (x y : Value) : (p2 w b x y).heap.size = w.heap.size := by unfold p2; simp [World.setCell]
section
variable {w0 w W W1 W2 : World} {g n p lvl p1 : Nat} {sl kv dv : Value} {M M1 : List Ln} {T : Res} {ks : List L8} {ds : List Nd} {qs : List Q4}
theorem MQ.go (h : MQ w0 g sl n M p lvl T w W kv dv M1 p1 ks ds qs) (hb : Below W.heap.size W W1) : MQ w0 g sl n M p lvl T w W1 kv dv M1 p1 ks ds qs := by
 obtain ⟨⟨a1, a2, a3, a4, a5⟩, b, c, d, e⟩ := h
 exact ⟨⟨a1, a2.go hb, a3.go hb, a4.below hb a4.lt, a5.below hb a5.lt⟩, b, c, owns_keep d fun k hk => hb.block k (d.lt k hk).2, e.keep (fun k hs => ⟨⟨hs.1, Nat.lt_of_lt_of_le hs.2.1 hb.size, hs.2.2⟩, hb.block k hs.2.1⟩) fun k hk => hb.block k (e.1.lt k hk).2⟩
theorem MQ.rd (h : MQ w0 g sl n M p lvl T w W kv dv M1 p1 ks ds qs) : RD w0 g sl n W M1 p1 := h.1.2.1
theorem MQ.at_ (h : MQ w0 g sl n M p lvl T w W kv dv M1 p1 ks ds qs) : RD w0 g sl n w M p := h.1.1
theorem MQ.res (h : MQ w0 g sl n M p lvl T w W kv dv M1 p1 ks ds qs) : Row4 W w.heap.size 25 (.int .i64 0) (.string ⟨#[]⟩) (.slice none 0 0) (.slice none 0 0) := h.1.2.2.2.1
theorem MQ.box (h : MQ w0 g sl n M p lvl T w W kv dv M1 p1 ks ds qs) : Row4 W (w.heap.size + 1) 25 (.int .i64 3) (.string ⟨#[]⟩) kv dv := h.1.2.2.2.2
theorem MQ.keys (h : MQ w0 g sl n M p lvl T w W kv dv M1 p1 ks ds qs) : Rd W kv ks := rd_of_owns h.2.2.2.1
theorem MQ.few (h : MQ w0 g sl n M p lvl T w W kv dv M1 p1 ks ds qs) : ds.length ≤ 100000 ∧ ks.length ≤ 100000 := by
 have h1 := h.2.1
 have h2 := h.rd.2.1.2.1
 have h3 := h.rd.n_le
 omega
theorem MQ.start (h : RD w0 g sl n w M p) (lvl : Nat) : MQ w0 g sl n M p lvl (mapB lvl [] [] (M.drop p)) w ((w.alloc (.cells #[.int .i64 0, .string ⟨#[]⟩, .slice none 0 0, .slice none 0 0] 25)).alloc (.cells #[.int .i64 3, .string ⟨#[]⟩, .slice none 0 0, .slice none 0 0] 25)) (.slice none 0 0) (.slice none 0 0) M p [] [] [] := by
 have h1 : Below w.heap.size w (w.alloc (.cells #[.int .i64 0, .string ⟨#[]⟩, .slice none 0 0, .slice none 0 0] 25)) := (Below.refl _ _).alloc (Nat.le_refl _) _
 have h2 : Below w.heap.size w ((w.alloc (.cells #[.int .i64 0, .string ⟨#[]⟩, .slice none 0 0, .slice none 0 0] 25)).alloc (.cells #[.int .i64 3, .string ⟨#[]⟩, .slice none 0 0, .slice none 0 0] 25)) := h1.alloc (by simp) _
 have h3 := Row4.make (w.alloc (.cells #[.int .i64 0, .string ⟨#[]⟩, .slice none 0 0, .slice none 0 0] 25)) 25 (.int .i64 3) (.string ⟨#[]⟩) (.slice none 0 0) (.slice none 0 0)
 rw [show (w.alloc (.cells #[.int .i64 0, .string ⟨#[]⟩, .slice none 0 0, .slice none 0 0] 25)).heap.size = w.heap.size + 1 by simp] at h3
 have h4 := Row4.make w 25 (.int .i64 0) (.string ⟨#[]⟩) (.slice none 0 0) (.slice none 0 0)
 refine ⟨⟨h, h.go h2, KP.of h2, h4.below ((Below.refl _ _).alloc (Nat.le_refl _) _) h4.lt, h3⟩, ⟨Nat.le_refl _, Nat.zero_le _, rfl, rfl⟩, by rw [Nat.sub_self]; exact MapI.start _ _, World.ownsRow_nil _ _ _ _, World.ownsRow_nil _ _ _ _, rfl, fun j hj => absurd hj (Nat.not_lt_zero _)⟩
theorem MQ.kept (h : MQ w0 g sl n M p lvl T w W kv dv M1 p1 ks ds qs) (hk : KP g sl W W1) : Row4 W1 w.heap.size 25 (.int .i64 0) (.string ⟨#[]⟩) (.slice none 0 0) (.slice none 0 0) ∧ Row4 W1 (w.heap.size + 1) 25 (.int .i64 3) (.string ⟨#[]⟩) kv dv ∧
  W1.ownsRow (w.heap.size + 2) 9 1 kv ks.length (ks.map encStr) ∧ W1.ownsRow (w.heap.size + 2) 25 4 dv ds.length (flat4 qs) ∧ w.heap.size + 2 ≤ W1.heap.size := by
 have hg := h.at_.lt
 have ho := h.at_.own
 have hs := hk.size
 have hb := h.box.lt
 have hkb : ∀ b, w.heap.size ≤ b → b < W.heap.size → W1.heap[b]? = W.heap[b]? := fun b h1 h2 => hk.block b h2 (by omega) fun e => by have := (ho b e).2; omega
 exact ⟨(hkb _ (Nat.le_refl _) h.res.lt).trans h.res, (hkb _ (Nat.le_succ _) hb).trans h.box, owns_keep h.2.2.2.1 fun b hb' => hkb b (by have := (h.2.2.2.1.lt b hb').1; omega) (h.2.2.2.1.lt b hb').2,
  owns_keep h.2.2.2.2.1 fun b hb' => hkb b (by have := (h.2.2.2.2.1.lt b hb').1; omega) (h.2.2.2.2.1.lt b hb').2, by omega⟩
theorem MQ.kid {x1 : Ln} {l1 M2 : List Ln} {p2' : Nat} {y r : L8} {d : Nd} {q : Q4} {kv' dv' : Value} (h : MQ w0 g sl n M p lvl T w W kv dv M1 p1 ks ds qs) (hx : M1.drop p1 = x1 :: l1) (hi : x1.ind = lvl) (he : entP x1.text = some (some (y, r))) (hy : y ∉ ks) (hk : KP g sl W W1) (h2 : RD w0 g sl n W1 M2 p2') (hlt : p1 + 1 ≤ p2') (hd : M2.drop p2' = M1.drop p2')
  (hG : Gets lvl (kidM lvl x1 l1 r) d (p2' - p1) (M2.drop p2')) (hN : NdC (fun b => W.heap.size ≤ b ∧ b < W1.heap.size) W1 d q.a q.b q.c q.d)
  (hP : PM (w.heap.size + 2) W1 kv dv W2 kv' (ks.length + 1) (ks.map encStr ++ [.string (ba y)]) dv' (ds.length + 1) (flat4 qs ++ [q.a, q.b, q.c, q.d])) :
  MQ w0 g sl n M p lvl T w (p2 W2 (w.heap.size + 1) kv' dv') kv' dv' M2 p2' (ks ++ [y]) (ds ++ [d]) (qs ++ [q]) := by
 have hkept := h.kept hk
 obtain ⟨⟨a1, a2, a3, a4, a5⟩, ⟨b1, b2, b3, b4⟩, c, e1, e2, e3, e4⟩ := h
 have hrk : ∀ k, kv.ownBlock = some k → w.heap.size + 2 ≤ k ∧ k < W.heap.size := fun k hk => e1.lt k hk
 have hrd : ∀ k, dv.ownBlock = some k → w.heap.size + 2 ≤ k ∧ k < W.heap.size := fun k hk => e2.lt k hk
 have hgl := a1.lt
 have how := a1.own
 have hws := a3.size
 have hk1 := hk.size
 have hb5 := a5.lt
 obtain ⟨⟨o1, o2, o3, o4, o5⟩, ob, os, ot, of1, of2⟩ := hP
 have hkb : ∀ b, w.heap.size ≤ b → b < W.heap.size → W1.heap[b]? = W.heap[b]? := fun b h1 h2 => hk.block b h2 (by omega) fun e => by have := (how b e).2; omega
 have hk' : ∀ k, kv'.ownBlock = some k → w.heap.size + 2 ≤ k := fun k e => (os.lt k e).1
 have hd' : ∀ k, dv'.ownBlock = some k → w.heap.size + 2 ≤ k := fun k e => (ot.lt k e).1
 -- what W1 had below the rows stands
 have hfar : ∀ b, b < W1.heap.size → b ≠ w.heap.size + 1 → kv.ownBlock ≠ some b → dv.ownBlock ≠ some b → (p2 W2 (w.heap.size + 1) kv' dv').heap[b]? = W1.heap[b]? := fun b h1 h2 h3 h4 => (p2_oth _ _ _ _ b h2).trans (ob b h1 h3 h4)
 have hlow : ∀ b, b < w.heap.size + 1 → (p2 W2 (w.heap.size + 1) kv' dv').heap[b]? = W1.heap[b]? := fun b h1 => hfar b (by omega) (by omega) (fun e => by have := (hrk b e).1; omega) (fun e => by have := (hrd b e).1; omega)
 have hsz := p2_size W2 (w.heap.size + 1) kv' dv'
 refine ⟨⟨a1, ?_, ?_, (hlow _ (Nat.lt_succ_self _)).trans hkept.1, ?_⟩, ⟨by omega, by rw [List.length_append, List.length_singleton]; omega, by rw [List.length_append, List.length_append, b3]; rfl, ?_⟩, ?_, ?_, ?_, by rw [List.length_append, List.length_append, e3]; rfl, fun j hj gj => ?_⟩
 ·obtain ⟨⟨r1, r2⟩, r3, r4, r5⟩ := h2
  have hbs := a1.base.size
  refine ⟨⟨r1.trans ⟨o1, o2, o3, by rw [hsz]; exact o4, fun b hb => hlow b (by omega)⟩, r2⟩, r3, (hlow g (by omega)).trans r4, owns_keep r5 fun b hb => hlow b (by have := (how b hb).2; omega)⟩
 ·have h3 := a3.trans hk
  exact ⟨o1.trans h3.os, o2.trans h3.tape, o3.trans h3.output, by rw [hsz]; omega, fun b hb h4 h5 => (hlow b (by omega)).trans (h3.block b hb h4 h5)⟩
 ·have hbx : Row4 W2 (w.heap.size + 1) 25 (.int .i64 3) (.string ⟨#[]⟩) kv dv := (ob _ (by omega) (fun e => by have := (hrk _ e).1; omega) (fun e => by have := (hrd _ e).1; omega)).trans hkept.2.1
  exact (hbx.put2 kv').put3 dv'
 ·rw [hd]; exact drop_on b4 (by omega)
 ·have := c
  rw [hx] at this
  have h4 := this.next hi he hy hG (by rw [hd, ← hx, List.drop_drop, show p1 + (p2' - p1) = p2' by omega])
  rwa [show p1 - p + (p2' - p1) = p2' - p by omega] at h4
 ·rw [List.length_append, List.map_append]
  exact owns_keep os fun b hb => p2_oth _ _ _ _ b (by have := hk' b hb; omega)
 ·rw [flat4_app, List.length_append]
  exact owns_keep ot fun b hb => p2_oth _ _ _ _ b (by have := hd' b hb; omega)
 ·have hnew : ∀ b, w.heap.size + 2 ≤ b → b < W1.heap.size → kv.ownBlock ≠ some b → dv.ownBlock ≠ some b → MB w (p2 W2 (w.heap.size + 1) kv' dv') kv' dv' b ∧ (p2 W2 (w.heap.size + 1) kv' dv').heap[b]? = W1.heap[b]? := fun b h1 h2 h3 h4 => by
   refine ⟨⟨h1, by rw [hsz]; omega, fun e => ?_, fun e => ?_⟩, hfar b h2 (by omega) h3 h4⟩
   ·rcases of1 b e with h5 | h5
    ·exact h3 h5
    ·omega
   ·rcases of2 b e with h5 | h5
    ·exact h4 h5
    ·omega
  by_cases hjl : j < qs.length
  ·rw [List.getElem_append_left hjl, List.getElem_append_left (by omega)]
   refine NdC.keep (fun b hb => ?_) _ (e4 j hjl (by omega))
   obtain ⟨s1, s2, s3, s4⟩ := hb
   obtain ⟨t1, t2⟩ := hnew b s1 (by omega) s3 s4
   exact ⟨t1, t2.trans (hkb b (by omega) s2)⟩
  ·rw [List.getElem_append_right (by omega), List.getElem_append_right (by omega)]
   have i1 : j - qs.length = 0 := by simp at hj; omega
   have i2 : j - ds.length = 0 := by omega
   simp only [i1, i2, List.getElem_cons_zero]
   exact NdC.keep (fun b hb => hnew b (by have := hb.1; omega) hb.2 (fun e => by have := (hrk b e).2; have := hb.1; omega) (fun e => by have := (hrd b e).2; have := hb.1; omega)) _ hN
theorem nd_map {S : Nat → Prop} {w : World} {v u : Value} {ks : List L8} {ds : List Nd} (hk : RdS S w u ks) (h : KdS S w v ds) : NdC S w (.mk 3 [] ks ds) (.int .i64 3) (.string ⟨#[]⟩) u v := by
 rw [NdC]
 exact ⟨rfl, rfl, hk, h⟩
theorem MQ.end_ (h : MQ w0 g sl n M p lvl T w W kv dv M1 p1 ks ds qs) (hp : p + 1 ≤ p1) (hG : Gets lvl T (.mk 3 [] ks ds) (p1 - p) (M1.drop p1)) :
  Out w0 g sl n M p (p + 1) lvl T w (.returned (.tuple #[.agg #[.int .i64 3, .string ⟨#[]⟩, kv, dv], .int .i64 0])) (p4 W w.heap.size (.int .i64 3) (.string ⟨#[]⟩) kv dv) := by
 obtain ⟨a, c, rfl⟩ := own_shape h.2.2.2.1
 obtain ⟨A, q, rfl⟩ := own_shape h.2.2.2.2.1
 refine out_end h.at_ h.1.2.2.1 ⟨M1, p1, h.rd, .inl ⟨rfl, hp, h.2.1.2.2.2, _, hG, nd_map (rdS_of_owns h.2.2.2.1 _ fun b hb => ?_) (h.2.2.2.2.kdS (fun b hb => ⟨by have := hb.1; omega, hb.2.1⟩) fun b hb => ?_)⟩⟩
 ·have := h.2.2.2.1.lt b hb
  exact ⟨by omega, this.2⟩
 ·have := h.2.2.2.2.1.lt b hb
  exact ⟨by omega, this.2⟩
theorem MQ.wrong {y : Ln} {t1 M2 : List Ln} {p2' : Nat} {E : Int} {k : Int} {t : ByteArray} {a : Option Addr} {i c : Nat} {A : Option Addr} {m q : Nat} (h : MQ w0 g sl n M p lvl T w W kv dv M1 p1 ks ds qs) (hk : KP g sl W W1) (h2 : RD w0 g sl n W1 M2 p2') (hE : E ≠ 0) (hT : T = .bad y.no E) (hd : M2.drop p2' = y :: t1) :
  Out w0 g sl n M p (p + 1) lvl T w (.returned (.tuple #[.agg #[.int .i64 k, .string t, .slice a i c, .slice A m q], .int .i64 E])) (p4 W1 w.heap.size (.int .i64 k) (.string t) (.slice a i c) (.slice A m q)) :=
 out_bad h.at_ (h.1.2.2.1.trans hk) h2 hE hT hd
end
end
end Go.Proofs.YtmdgpejedbkkdaaGreatDoor
