/- EnvGet -/
import Derived.LoopIn
import Derived.LoopNIn
import Derived.OwnWalkIn
import Derived.RangeFuncBox
import Derived.RangeFuncFrom
import Derived.RangeFuncLeaves
import Derived.Shelf.Abstract
import Derived.TacticsInMore
import Derived.Test.YtkcilmmaggmmoaaGreatDoorNT33
set_option linter.unusedVariables false
set_option linter.unusedSimpArgs false
set_option maxRecDepth 100000
set_option maxHeartbeats 16000000
open Go.Lib (hid)
namespace Go.Proofs.YtkcilmmaggmmoaaGreatDoor
namespace Nw
end Nw
namespace V12
end V12
end Go.Proofs.YtkcilmmaggmmoaaGreatDoor
namespace Go.Proofs.YtkcilmmaggmmoaaGreatDoor
section
open Go.RowKit Go.Shelf Go.Sort
open Nw V12 Go.ChangeShapes Go.WideShapes
attribute [local go_sem] Oper.semAt_some
def enc2 (x : Int × KV) : Array Value := #[.int .i64 x.1, .agg #[.string (ba x.2.1), .string (ba x.2.2)]]
def seqB (l : List KV) : List (Int × KV) := (List.range l.length).reverse.map fun (i : Nat) => ((i : Int), l.getD i ([], []))
theorem seqB_len (l : List KV) : (seqB l).length = l.length := by unfold seqB; simp
theorem seqB_get (l : List KV) (i : Nat) (h : i < l.length) : (seqB l)[i]? = some (((l.length - 1 - i : Nat) : Int), l[l.length - 1 - i]'(by omega)) := by
 unfold seqB
 rw [List.getElem?_map, List.getElem?_reverse (by rw [List.length_range]; exact h), List.length_range, List.getElem?_range (by omega)]
 show some ((((l.length - 1 - i : Nat)) : Int), l.getD (l.length - 1 - i) ([], [])) = _
 rw [List.getD_eq_getElem?_getD, List.getElem?_eq_getElem (show l.length - 1 - i < l.length by omega)]; rfl
theorem seqB_at (l : List KV) (k : Nat) (h : k < l.length) : (seqB l).take (l.length - (k + 1)) ++ [((k : Int), l[k]'h)] = (seqB l).take (l.length - k) := by
 have h1 : l.length - (k + 1) < (seqB l).length := by rw [seqB_len]; omega
 have e := seqB_get l (l.length - (k + 1)) (by omega)
 have e2 : l.length - 1 - (l.length - (k + 1)) = k := by omega
 simp only [e2] at e
 rw [List.getElem?_eq_getElem h1] at e
 injection e with e
 rw [← e, ← List.take_succ_eq_append_getElem h1, show l.length - (k + 1) + 1 = l.length - k by omega]
theorem seqB_vals (l : List KV) : (seqB l).map (·.2) = l.reverse := by
 refine List.ext_getElem? fun i => ?_
 rw [List.getElem?_map]
 by_cases h : i < l.length
 ·rw [seqB_get l i h, List.getElem?_reverse h, List.getElem?_eq_getElem (show l.length - 1 - i < l.length by omega)]; rfl
 ·rw [List.getElem?_eq_none (by rw [seqB_len]; omega), List.getElem?_eq_none (by rw [List.length_reverse]; omega)]; rfl
theorem last_rev {l pre rest : List KV} {x : KV} {k : L8} (h : l.reverse = pre ++ x :: rest) (hp : ∀ q ∈ pre, q.1 ≠ k) (hx : x.1 = k) : lastV l k = some x.2 := by
 have e : l = (rest.reverse ++ [x]) ++ pre.reverse := by
  have := congrArg List.reverse h
  rw [List.reverse_reverse, List.reverse_append, List.reverse_cons] at this
  exact this
 rw [e, last_app, last_none fun q hq => hp q (List.mem_reverse.1 hq)]
 show lastV (rest.reverse ++ [x]) k = _
 rw [last_app]
 have e2 : lastV [x] k = some x.2 := by show (if x.1 = k then some x.2 else none) = _; rw [if_pos hx]
 rw [e2]
theorem back_in (F : Fence) (n : Nat) (hf : F.fn 113) (hro : F.round = none) (hn : 1 ≤ n) (l Bs n0 b off len cap : Nat) (zs : List KV) (hl : zs.length = len) (hlen : len ≤ 1000000) (hb : b < n0) (hB0 : Bs < n0) (J Jx : List (Int × KV) → World → Prop)
  (hY : ∀ pre x W, J pre W → pre.length < len → YieldAt F (n - 1) Tryz.prog l (enc2 x) W fun e W' =>
   (e = .returned (.bool true) ∧ J (pre ++ [x]) W' ∧ Below n0 W W') ∨ (e = .returned (.bool false) ∧ Jx (pre ++ [x]) W'))
  (W : World) (hBs : W.cell? ⟨Bs, 0, none⟩ = some (.slice (some ⟨b, off, none⟩) len cap)) (hc : ∀ j (h : j < zs.length), W.cell? ⟨b, off + j * 2, none⟩ = some (.string (ba (zs[j]'h).1)) ∧ W.cell? ⟨b, off + j * 2 + 1, none⟩ = some (.string (ba (zs[j]'h).2))) (h0 : J [] W) :
  CallsIn F n Tryz.prog 113 #[.func (.yield l) #[] #[], .pointer (some ⟨Bs, 0, none⟩)] W fun e W' => (∃ v, e = .returned v) ∧ ((∃ ys, ys = seqB zs ∧ J ys W') ∨ (∃ pre, pre <+: seqB zs ∧ Jx pre W')) := by
 have HC := hid hc
 have HL := hid hl
 have kw0 : IntKind.i64.wrap ((len : Int) - 1) = (len : Int) - 1 := IntWalk.i64_in _ (by omega)
 clear hc hl
 refine callsIn_of_wp Tryz.func113 rfl hf ?_ hro
 simp only [Tryz.ntmps113, List.size_toArray, List.length_cons, List.length_nil, Nat.reduceAdd, Nat.reduceSub, Array.replicate_succ, Array.replicate_zero, List.push_toArray, List.append_toArray, List.nil_append, List.cons_append]
 gi_wp2
 gi_loopw [3] (fun i wr => ∃ m : Nat, m ≤ len ∧ i = .int .i64 ((m : Int) - 1) ∧ J ((seqB zs).take (len - m)) wr ∧ Below n0 W wr) (fun i _ => (intOf i + 1).toNat)
 case atStart => exact ⟨len, Nat.le_refl _, rfl, by rw [Nat.sub_self]; exact h0, Below.refl _ _⟩
 case round =>
  obtain ⟨m, hm, hi, hJs, hnx⟩ := hrel
  cases m with
  | zero =>
   obtain rfl : u3 = .int .i64 (-1) := hi
   have HT := hid (show (seqB zs).take (len - 0) = seqB zs from List.take_of_length_le (by rw [seqB_len, HL.out]; exact Nat.le_refl _))
   gi_wp2
   go_end0
   exact ⟨⟨_, rfl⟩, .inl ⟨_, rfl, by rw [HT.out] at hJs; exact hJs⟩⟩
  | succ k =>
   obtain rfl : u3 = .int .i64 (k : Int) := by rw [hi]; congr 1; omega
   have hkl : k < zs.length := by rw [HL.out]; omega
   have hT := seqB_at zs k hkl
   rw [HL.out] at hT
   have hbx := (hnx.cell (p := ⟨Bs, 0, none⟩) hB0).trans hBs
   have hcx := (hnx.cell (p := ⟨b, off + k * 2, none⟩) hb).trans (HC.out k hkl).1
   have hcy := (hnx.cell (p := ⟨b, off + k * 2 + 1, none⟩) hb).trans (HC.out k hkl).2
   obtain ⟨fn, tmps, assign, body, hy, hR⟩ := hY _ ((k : Int), zs[k]'hkl) wr hJs (by rw [List.length_take, seqB_len, HL.out]; omega)
   unfold enc2 at hy
   have HP := hid (show (seqB zs).take (len - k) <+: seqB zs from List.take_prefix _ _)
   have HT := hid hT
   have hk0 : (0 : Int) ≤ (k : Int) := by omega
   have hklz : (k : Int) < (len : Int) := by omega
   have kw : IntKind.i64.wrap ((k : Int) - 1) = (k : Int) - 1 := IntWalk.i64_in _ (by omega)
   clear hY hi hT
   gi_wp2
   refine hR.mono ?_
   rintro e W3 (⟨rfl, hJ3, hk3⟩ | ⟨rfl, hJx3⟩)
   ·gi_wp2
    go_roundw
    case rel => exact ⟨k, by omega, rfl, by rw [← HT.out]; exact hJ3, hnx.trans hk3⟩
    case measure => simp [intOf]
   ·gi_wp2
    refine bodyPost_ret (results_none rfl _ _ _) rfl ?_
    exact ⟨⟨_, rfl⟩, .inr ⟨_, HP.out, by rw [← HT.out]; exact hJx3⟩⟩
theorem back_none_in (F : Fence) (n : Nat) (hf : F.fn 113) (hro : F.round = none) (l Bs : Nat) (a : Option Addr) (cap : Nat) (J : List (Int × KV) → World → Prop) (W : World) (hBs : W.cell? ⟨Bs, 0, none⟩ = some (.slice a 0 cap)) (h0 : J [] W) :
  CallsIn F n Tryz.prog 113 #[.func (.yield l) #[] #[], .pointer (some ⟨Bs, 0, none⟩)] W fun e W' => (∃ v, e = .returned v) ∧ J [] W' := by
 refine callsIn_of_wp Tryz.func113 rfl hf ?_ hro
 simp only [Tryz.ntmps113, List.size_toArray, List.length_cons, List.length_nil, Nat.reduceAdd, Nat.reduceSub, Array.replicate_succ, Array.replicate_zero, List.push_toArray, List.append_toArray, List.nil_append, List.cons_append]
 gi_wp2
 gi_loopw [3] (fun i wr => i = .int .i64 (-1) ∧ J [] wr) (fun _ _ => 0)
 case atStart => exact ⟨rfl, h0⟩
 case round =>
  obtain ⟨rfl, hJ⟩ := hrel
  gi_wp2
  go_end0
  exact ⟨⟨_, rfl⟩, hJ⟩
theorem back_stops (F : Fence) (n : Nat) (hf : F.fn 113) (hro : F.round = none) (hn : 1 ≤ n) (Bs n0 : Nat) (v : Value) (zs : List KV) (hlen : zs.length ≤ 1000000) (w : World) (hBs : Bs < w.heap.size) (hn0 : n0 = w.heap.size)
  (hc : w.cell? ⟨Bs, 0, none⟩ = some v) (hv : VR w v zs) :
  SeqStopsK F n Tryz.prog 113 #[.pointer (some ⟨Bs, 0, none⟩)] enc2 (Below n0) (fun ys => ys = seqB zs) (fun pre => pre <+: seqB zs) zs.length w := fun l J Jx W hW _ _ hY h0 => by
 subst hn0
 have hc' := (hW.cell (p := ⟨Bs, 0, none⟩) hBs).trans hc
 obtain ⟨a, cap, rfl, hle, hcm, hz⟩ := hv
 rcases hz with ⟨rfl, _⟩ | ⟨b, o, rfl, hb, hcs⟩
 ·exact (back_none_in F n hf hro l Bs a cap J W hc' h0).mono fun e W' ⟨he, hj⟩ => ⟨he, .inl ⟨_, rfl, hj⟩⟩
 ·exact back_in F n hf hro hn l Bs w.heap.size b o zs.length cap zs rfl hlen hb hBs J Jx hY W hc' (fun j hj => ⟨(hW.cell (p := ⟨b, o + j * 2, none⟩) hb).trans (hcs j hj).1, (hW.cell (p := ⟨b, o + j * 2 + 1, none⟩) hb).trans (hcs j hj).2⟩) h0
theorem backward_in (F : Fence) (n : Nat) (hf : F.fn 103) (hro : F.round = none) (a : Option Addr) (len cap : Nat) (w : World) :
  CallsIn F n Tryz.prog 103 #[.slice a len cap] w fun e w' => e = .returned (.func (.func 113) #[] #[.pointer (some ⟨w.heap.size, 0, none⟩)]) ∧ w' = w.alloc (.cells #[.slice a len cap] 26) := by
 refine callsIn_of_wp Tryz.func103 rfl hf ?_ hro
 simp only [Tryz.ntmps103, List.size_toArray, List.length_cons, List.length_nil, Nat.reduceAdd, Nat.reduceSub, Array.replicate_succ, Array.replicate_zero, List.push_toArray, List.append_toArray, List.nil_append, List.cons_append]
 gi_wp2
 go_ret
 exact ⟨rfl, rfl⟩
theorem callsIn_any12 {P : Program} {n m : Nat} {f : FuncId} {args : Array Value} {w : World} {R : Ending → World → Prop} (h : CallsIn Fence.wide n P f args w R) : CallsIn Fence.wide m P f args w R := callsIn_wide.2 (callsIn_wide.1 h)
theorem lt_heap12 {W : World} {k : Nat} {o : Obj} (h : W.heap[k]? = some o) : k < W.heap.size := (Array.getElem?_eq_some_iff.1 h).1
theorem wpIn_boxes {P : Program} {n : Nat} {g : Operand} {ps : Array Tmp} {assign body : Code} {Q : Exit → Act → World → Prop} {a : Act} {w : World} {α : Type}
  {gf : Nat} {lb : Array Value} (hg : a.eval g = .func (.func gf) #[] lb) (eg : ∀ args w, (callFunc gf args).run P w = .ok (.enter gf args) w)
  {encs : α → Array Value} {S Sp : List α → Prop} {N : Nat} (hps : ∀ x, (encs x).size = ps.size) (hseq : SeqStopsK Fence.wide 2 P gf lb encs (Below w.heap.size) S Sp N w)
  (I : List α → Prop) (Ix : List α → World → Prop) (hIx : ∀ s V V' row, Ix s V → V.grownBy V' row → (∀ r, row = some r → w.heap.size ≤ r) → Ix s V') (h0 : I [])
  (o : α → Obj) (a₁ : α → Nat → Act)
  (hassign : ∀ (l : Nat) (x : α) (V : World) (K : Act → World → Prop), K (a₁ x V.heap.size) (V.alloc (o x)) →
   assign.wpIn (Fence.wide.inRound l) 1 P (Exit.then K (fun _ _ _ => False)) { tmps := (ps.zip (encs x)).foldl (fun t (p, v) => t.setIfInBounds p v) a.tmps, defers := [] } V)
  (hbody : ∀ (l : Nat) (pre : List α) (x : α) (V : World) (b : Nat), I pre → Below w.heap.size w V → V.heap[b]? = some (o x) → w.heap.size ≤ b →
   body.wpIn (Fence.wide.inRound l) 1 P (fun e _ V' => (e = .normal ∧ V' = V ∧ I (pre ++ [x])) ∨ (e = .ret ∧ (∀ k, w.heap.size ≤ k → V'.heap[k]? = V.heap[k]?) ∧ Ix (pre ++ [x]) V')) (a₁ x b) V)
  (hdone : ∀ (D : Nat) (xs : List α) (V : World), w.heap.size ≤ D → S xs → I xs → Below w.heap.size w V → V.heap[D]? = some (.deferred (some [])) → Q .normal { a with defers := { target := .collected D, args := #[] } :: a.defers } V)
  (hstop : ∀ (D : Nat) (pre : List α) (V : World), w.heap.size ≤ D → Sp pre → Ix pre V → V.heap[D]? = some (.deferred (some [])) → Code.ret.wpIn Fence.wide n P Q { a with defers := { target := .collected D, args := #[] } :: a.defers } V) :
  (Code.rangeFunc g ps assign body).wpIn Fence.wide n P Q a w := by
 refine wpIn_rangeFunc ?_
 intro fn hfn
 obtain ⟨rec, hrec⟩ : ∃ rec : LoopState → Option Code → Loop, rec = fun st pe => { state := st, pending := pe, fn, tmps := a.tmps, params := ps, assign, body, defers := w.heap.size } := ⟨_, rfl⟩
 obtain ⟨W1, hW1⟩ : ∃ W1, (w.alloc (.deferred (some []))).alloc (.loop (rec .ready none)) = W1 := ⟨_, rfl⟩
 have hs1 : W1.heap.size = w.heap.size + 2 := by rw [← hW1]; simp
 have hL1 : W1.heap[w.heap.size + 1]? = some (.loop (rec .ready none)) := by
  rw [← hW1]; have := World.alloc_heap_new (w.alloc (.deferred (some []))) (.loop (rec .ready none)); rwa [World.size_alloc] at this
 have hD1 : W1.heap[w.heap.size]? = some (.deferred (some [])) := by
  rw [← hW1]; exact (Below.heap_alloc _ _ _ (by simp)).trans (World.alloc_heap_new w _)
 have hB1 : Below w.heap.size w W1 := by rw [← hW1]; exact ((Below.refl _ w).alloc (Nat.le_refl _) _).alloc (by simp) _
 refine ⟨w.heap.size + 1, [{ target := .collected w.heap.size, args := #[] }], W1, { target := .fn (.func gf) lb, args := #[.func (.yield (w.heap.size + 1)) #[] #[]] }, W1, gf,
  #[.func (.yield (w.heap.size + 1)) #[] #[]] ++ lb, W1, ?_, ?_, ?_, ?_, fun h => (by cases h), ?_⟩
 ·rw [← hW1, hrec]; exact run_enterLoop_outer _ _ _ _ _
 ·simp only [resolve, hg]
  simp [go_sem]
 ·intro f' _; trivial
 ·simp [invoke, go_sem, eg]
 ·refine (callsIn_any12 (hseq (w.heap.size + 1)
   (fun pre V => I pre ∧ Below w.heap.size w V ∧ V.heap[w.heap.size + 1]? = some (.loop (rec .ready none)) ∧ V.heap[w.heap.size]? = some (.deferred (some [])))
   (fun pre V => Ix pre V ∧ V.heap[w.heap.size + 1]? = some (.loop (rec .done (some .ret))) ∧ V.heap[w.heap.size]? = some (.deferred (some [])))
   W1 hB1
   (fun s A B row hs hg' hr => by
    obtain ⟨h1, h2, h3, h4⟩ := hs
    have hne : ∀ k, k < w.heap.size + 2 → some k ≠ row := fun k hk e => by have := (hr k e.symm).1; omega
    exact ⟨h1, h2.grown hg' h2.size (fun q hq => by have := (hr q hq).1; omega), (hg'.block _ (lt_heap12 h3) (hne _ (by omega))).trans h3, (hg'.block _ (lt_heap12 h4) (hne _ (by omega))).trans h4⟩)
   (fun s A B row hs hg' hr => by
    obtain ⟨h1, h3, h4⟩ := hs
    have hne : ∀ k, k < w.heap.size + 2 → some k ≠ row := fun k hk e => by have := (hr k e.symm).1; omega
    exact ⟨hIx s A B row h1 hg' (fun q hq => by have := (hr q hq).1; omega), (hg'.block _ (lt_heap12 h3) (hne _ (by omega))).trans h3, (hg'.block _ (lt_heap12 h4) (hne _ (by omega))).trans h4⟩)
   ?_ ⟨h0, hB1, hL1, hD1⟩)).mono ?_
  ·rintro pre x V ⟨hi, hbl, hl, hk⟩ hlen
   have hy := run_yield (P := P) (args := encs x) hl (by rw [hrec]; exact hps x)
   rw [hrec] at hy
   have hlt : w.heap.size + 1 < V.heap.size := lt_heap12 hl
   have hla : (V.alloc (o x)).heap[w.heap.size + 1]? = some (.loop (rec .ready none)) := (Below.heap_alloc V (o x) _ hlt).trans hl
   refine ⟨fn, _, assign, body, hy, roundIn_of_wpIn hfn (hassign _ x V _ ⟨_, run_beginRound hla (by rw [hrec]), ?_⟩)⟩
   obtain ⟨V2, hV2⟩ : ∃ V2, (V.alloc (o x)).putObj (w.heap.size + 1) (.loop { rec .ready none with state := .busy }) = V2 := ⟨_, rfl⟩
   have hl2 : V2.heap[w.heap.size + 1]? = some (.loop { rec .ready none with state := .busy }) := by rw [← hV2]; exact World.putObj_heap_same (lt_heap12 hla)
   have hk2 : V2.heap[w.heap.size]? = some (.deferred (some [])) := by rw [← hV2]; exact (World.putObj_heap_other (by omega)).trans ((Below.heap_alloc V (o x) _ (by omega)).trans hk)
   have hx2 : V2.heap[V.heap.size]? = some (o x) := by rw [← hV2]; exact (World.putObj_heap_other (by omega)).trans (World.alloc_heap_new V (o x))
   have hsz := hbl.size
   have hB2 : Below w.heap.size V V2 := by
    rw [← hV2]
    exact ((Below.refl _ V).alloc hsz (o x)).grown (grownBy_putObj' _ _ _) (by simp; omega) (fun q hq => by cases hq; omega)
   rw [hV2]
   refine wpIn_mono (hbody _ pre x V2 V.heap.size hi (hbl.trans hB2) hx2 hsz) ?_
   rintro e a3 V3 (⟨rfl, rfl, hi3⟩ | ⟨rfl, hsame, hi3⟩)
   ·have hend := run_endRound (P := P) none hl2
    rw [hrec] at hend
    have hf : Below w.heap.size V (V3.putObj (w.heap.size + 1) (.loop (rec .ready none))) := hB2.grown (grownBy_putObj' _ _ _) (by have := hB2.size; omega) (fun q hq => by cases hq; omega)
    rw [hrec] at hf
    refine ⟨_, _, hend, .inl ⟨rfl, ⟨hi3, hbl.trans hf, ?_, ?_⟩, hf⟩⟩
    ·rw [hrec]; exact World.putObj_heap_same (lt_heap12 hl2)
    ·exact (World.putObj_heap_other (by omega)).trans hk2
   ·have hl3 := (hsame (w.heap.size + 1) (by omega)).trans hl2
    have hd3 := (hsame w.heap.size (Nat.le_refl _)).trans hk2
    have hend := run_endRound (P := P) (some .ret) hl3
    rw [hrec] at hend
    refine ⟨_, _, hend, .inr ⟨rfl, hIx _ _ _ _ hi3 (grownBy_putObj' _ _ _) (fun q hq => by cases hq; omega), ?_, ?_⟩⟩
    ·rw [hrec]; exact World.putObj_heap_same (lt_heap12 hl3)
    ·exact (World.putObj_heap_other (by omega)).trans hd3
  ·rintro e W2 ⟨⟨v, rfl⟩, (⟨xs, hS, hi, hbl, hl, hk⟩ | ⟨pre, hSp, hi, hl, hk⟩)⟩
   ·refine ⟨none, _, by have := run_endLoop (P := P) hl (by rw [hrec]; simp); rw [hrec] at this; exact this, hdone _ xs _ (Nat.le_refl _) hS hi ?_ ((World.putObj_heap_other (by omega)).trans hk)⟩
    exact hbl.grown (grownBy_putObj' _ _ _) hbl.size (fun q hq => by cases hq; omega)
   ·refine ⟨some .ret, _, by have := run_endLoop (P := P) hl (by rw [hrec]; simp); rw [hrec] at this; exact this, hstop _ pre _ (Nat.le_refl _) hSp ?_ ((World.putObj_heap_other (by omega)).trans hk)⟩
    exact hIx _ _ _ _ hi (grownBy_putObj' _ _ _) (fun q hq => by cases hq; omega)
theorem cells_two12 {W : World} {bx : Nat} {X Y : ByteArray} (h : W.heap[bx]? = some (.cells #[.string X, .string Y] 41 (0, 0))) : W.cell? ⟨bx, 0, none⟩ = some (.string X) ∧ W.cell? ⟨bx, 1, none⟩ = some (.string Y) := ⟨by simp [World.cell?, h], by simp [World.cell?, h]⟩
theorem box12 {W : World} {b : Nat} {v : Value} {t : TypeId} (h : W.heap[b]? = some (.cells #[v] t (0, 0))) : W.cell? ⟨b, 0, none⟩ = some v ∧ W.frozen? ⟨b, 0, none⟩ = false := ⟨by simp [World.cell?, h], by simp [World.frozen?, h]⟩
def NoK (K : L8) (pre : List (Int × KV)) : Prop := ∀ q ∈ pre, q.2.1 ≠ K
def GotIx (w : World) (K : L8) (pre : List (Int × KV)) (V : World) : Prop :=
 ∃ pre0 x, pre = pre0 ++ [x] ∧ (∀ q ∈ pre0, q.2.1 ≠ K) ∧ x.2.1 = K ∧ Go.Boxed V (w.heap.size + 1) 9 (.string (ba x.2.2)) ∧ Go.Boxed V (w.heap.size + 1 + 1) 4 (.bool true) ∧ Below w.heap.size w V
theorem got_seq {zs : List KV} {pre pre0 : List (Int × KV)} {x : Int × KV} {K : L8} (hp : pre <+: seqB zs) (e : pre = pre0 ++ [x]) (h : ∀ q ∈ pre0, q.2.1 ≠ K) (hx : x.2.1 = K) : lastV zs K = some x.2.2 := by
 obtain ⟨r, hr⟩ := hp
 have h2 : zs.reverse = pre0.map (·.2) ++ x.2 :: r.map (·.2) := by
  rw [← seqB_vals, ← hr, e]; simp
 exact last_rev h2 (fun q hq => by obtain ⟨y, hy, rfl⟩ := List.mem_map.1 hq; exact h y hy) hx
theorem got_none {zs : List KV} {K : L8} (h : ∀ q ∈ seqB zs, q.2.1 ≠ K) : lastV zs K = none := last_none fun p hp => by
 have : p ∈ (seqB zs).map (·.2) := by rw [seqB_vals]; exact List.mem_reverse.2 hp
 obtain ⟨y, hy, rfl⟩ := List.mem_map.1 this
 exact h y hy
theorem Get_any (v : Value) (zs : List KV) (hlen : zs.length ≤ 1000000) (k : ByteArray) (w : World) (hv : VR w v zs) :
  Calls Tryz.prog 75 #[v, .string k] w fun e w' => e = .returned (.tuple #[.string (gotV zs k.data.toList), .bool (gotB zs k.data.toList)]) ∧ Below w.heap.size w w' := by
 have HV := hid hv
 obtain ⟨a, cap, rfl, -⟩ := hv
 refine (callsIn_wide (n := 4)).1 ?_
 refine callsIn_of_wp_marks Tryz.func75 rfl trivial ?_ rfl
 simp only [Tryz.ntmps75, List.size_toArray, List.length_cons, List.length_nil, Nat.reduceAdd, Nat.reduceSub, Array.replicate_succ, Array.replicate_zero, List.push_toArray, List.append_toArray, List.nil_append, List.cons_append]
 gi_wp2_with fail
 refine ⟨trivial, (backward_in Fence.wide _ trivial rfl _ _ _ _).mono ?_⟩
 rintro e w' ⟨rfl, rfl⟩
 gi_wp2
 obtain ⟨W0, hW0⟩ : ∃ W0, (((w.alloc (.cells #[.string k] 9)).alloc (.cells #[.string ⟨#[]⟩] 9)).alloc (.cells #[.bool false] 4)).alloc (.cells #[.slice a zs.length cap] 26) = W0 := ⟨_, rfl⟩
 have hb1 := (Below.refl w.heap.size w).alloc (Nat.le_refl _) (.cells #[.string k] 9)
 have hb2 := hb1.alloc hb1.size (.cells #[.string ⟨#[]⟩] 9)
 have hb3 := hb2.alloc hb2.size (.cells #[.bool false] 4)
 have hb4 := hb3.alloc hb3.size (.cells #[.slice a zs.length cap] 26)
 have b0 := (((Go.Boxed.new w 9 (.string k)).alloc (.cells #[.string ⟨#[]⟩] 9)).alloc (.cells #[.bool false] 4)).alloc (.cells #[.slice a zs.length cap] 26)
 have b1 := ((Go.Boxed.new (w.alloc (.cells #[.string k] 9)) 9 (.string ⟨#[]⟩)).alloc (.cells #[.bool false] 4)).alloc (.cells #[.slice a zs.length cap] 26)
 have b2 := (Go.Boxed.new ((w.alloc (.cells #[.string k] 9)).alloc (.cells #[.string ⟨#[]⟩] 9)) 4 (.bool false)).alloc (.cells #[.slice a zs.length cap] 26)
 have b3 := Go.Boxed.new (((w.alloc (.cells #[.string k] 9)).alloc (.cells #[.string ⟨#[]⟩] 9)).alloc (.cells #[.bool false] 4)) 26 (.slice a zs.length cap)
 simp only [World.size_alloc] at b1 b2 b3
 have hs0 : W0.heap.size = w.heap.size + 4 := by rw [← hW0]; simp
 rw [hW0] at b0 b1 b2 b3 hb4 ⊢
 have HB4 := hid hb4
 have HB0 := hid b0
 have HB1 := hid b1
 have HB2 := hid b2
 have HS := hid (back_stops Fence.wide 2 trivial rfl (by omega) (w.heap.size + 1 + 1 + 1) W0.heap.size _ zs hlen W0 (by omega) rfl b3.cell (HV.out.below hb4))
 have HS0 := hid hs0
 clear hb1 hb2 hb3 hb4 b0 b1 b2 b3 hW0 hs0
 refine wpIn_boxes (gf := 113) (lb := #[.pointer (some ⟨w.heap.size + 1 + 1 + 1, 0, none⟩)]) rfl (enters_of Tryz.func113 (by kernel_rfl) rfl)
  (encs := enc2) (fun _ => rfl) HS.out (NoK k.data.toList) (GotIx w k.data.toList)
  (fun s V V' row h hg hr => by
   obtain ⟨p0, x, h1, h2, h3, h4, h5, h6⟩ := h
   have := HS0.out
   exact ⟨p0, x, h1, h2, h3, h4.kept hg (fun e => by have := hr _ e.symm; omega), h5.kept hg (fun e => by have := hr _ e.symm; omega), h6.grown hg h6.size (fun q hq => by have := hr q hq; omega)⟩)
  (fun q hq => by cases hq)
  (fun x => .cells #[.string (ba x.2.1), .string (ba x.2.2)] 41)
  (fun x b => { tmps := #[.slice a zs.length cap, .string k, undef, .pointer (some ⟨w.heap.size, 0, none⟩), .pointer (some ⟨w.heap.size + 1, 0, none⟩), .pointer (some ⟨w.heap.size + 1 + 1, 0, none⟩), undef, .pointer (some ⟨b, 0, none⟩), .slice a zs.length cap,
   .func (.func 113) #[] #[.pointer (some ⟨w.heap.size + 1 + 1 + 1, 0, none⟩)], .int .i64 x.1, .agg #[.string (ba x.2.1), .string (ba x.2.2)], undef, undef, undef, undef, undef, undef], defers := [] }) ?assign ?body ?done ?stop
 case assign =>
  intro l x V K hK
  unfold enc2
  gi_wp2
  exact hK
 case body =>
  rintro l pre x V b hi hbl hb hge
  obtain ⟨c0, c1⟩ := cells_two12 hb
  have hkb := (box12 (v := .string k) (t := 9) ((hbl.block _ (by rw [HS0.out]; omega)).trans HB0.out)).1
  have hx1 : Go.Boxed V (w.heap.size + 1) 9 (.string ⟨#[]⟩) := (hbl.block _ (by rw [HS0.out]; omega)).trans HB1.out
  have hx2 : Go.Boxed V (w.heap.size + 1 + 1) 4 (.bool false) := (hbl.block _ (by rw [HS0.out]; omega)).trans HB2.out
  have d1 := hx1.cell
  have f1 := hx1.frozen
  have d2 := hx2.cell
  have f2 := hx2.frozen
  have HX1 := hid hx1
  have HX2 := hid hx2
  have HVB := hid (HB4.out.trans (hbl.mono HB4.out.size))
  have HI := hid hi
  clear hx1 hx2 hbl hb hi
  have hXd : (ba x.2.1).data.toList = x.2.1 := ba_data _
  by_cases hx : x.2.1 = k.data.toList
  ·have e1 : ((ba x.2.1).toList == k.toList) = true := by rw [ByteArray.toList_eq, ByteArray.toList_eq, ba_data]; exact beq_iff_eq.2 hx
   have HX := hid hx
   obtain ⟨Y, hY⟩ : ∃ Y, ba x.2.2 = Y := ⟨_, rfl⟩
   have HY := hid hY
   rw [hY] at c1 ⊢
   clear hx hXd hY
   generalize ba x.2.1 = X at c0 e1 ⊢
   gi_wp2
   refine ⟨fun j hj => ?_, ?_⟩
   ·have := HS0.out
    rw [Below.heap_setCell _ _ _ _ (show j ≠ w.heap.size + 1 + 1 by omega), Below.heap_setCell _ _ _ _ (show j ≠ w.heap.size + 1 by omega)]
   ·refine ⟨pre, x, rfl, HI.out, HX.out, ?_, ?_, ?_⟩
    ·rw [HY.out]
     exact (Below.heap_setCell _ _ _ _ (by show w.heap.size + 1 ≠ w.heap.size + 1 + 1; omega)).trans (Go.Boxed.set _ HX1.out)
    ·exact Go.Boxed.set _ ((Below.heap_setCell _ _ _ _ (by show w.heap.size + 1 + 1 ≠ w.heap.size + 1; omega)).trans HX2.out)
    ·exact (HVB.out.setCell (by show w.heap.size ≤ w.heap.size + 1; omega) _).setCell (by show w.heap.size ≤ w.heap.size + 1 + 1; omega) _
  ·have e1 : ((ba x.2.1).toList == k.toList) = false := by rw [ByteArray.toList_eq, ByteArray.toList_eq, ba_data]; exact beq_eq_false_iff_ne.2 hx
   have HX := hid hx
   clear hx hXd
   generalize ba x.2.1 = X at c0 e1 ⊢
   generalize ba x.2.2 = Y at c1 ⊢
   gi_wp2
   intro q hq
   rcases List.mem_append.1 hq with hq | hq
   ·exact HI.out q hq
   ·rw [List.mem_singleton.1 hq]; exact HX.out
 case done =>
  rintro D xs V hD rfl hi hbl hK
  have hn := got_none hi
  have hx1 : Go.Boxed V (w.heap.size + 1) 9 (.string ⟨#[]⟩) := (hbl.block _ (by rw [HS0.out]; omega)).trans HB1.out
  have hx2 : Go.Boxed V (w.heap.size + 1 + 1) 4 (.bool false) := (hbl.block _ (by rw [HS0.out]; omega)).trans HB2.out
  have d1 := hx1.cell
  have f1 := hx1.frozen
  have d2 := hx2.cell
  have f2 := hx2.frozen
  have HVB := HB4.out.trans (hbl.mono HB4.out.size)
  have hx2' : Go.Boxed ((V.setCell ⟨w.heap.size + 1, 0, none⟩ (.string ⟨#[]⟩)).setCell ⟨w.heap.size + 1 + 1, 0, none⟩ (.bool false)) (w.heap.size + 1 + 1) 4 (.bool false) :=
   Go.Boxed.set _ ((Below.heap_setCell _ _ _ _ (by show w.heap.size + 1 + 1 ≠ w.heap.size + 1; omega)).trans hx2)
  have hx1' : Go.Boxed ((V.setCell ⟨w.heap.size + 1, 0, none⟩ (.string ⟨#[]⟩)).setCell ⟨w.heap.size + 1 + 1, 0, none⟩ (.bool false)) (w.heap.size + 1) 9 (.string ⟨#[]⟩) :=
   (Below.heap_setCell _ _ _ _ (by show w.heap.size + 1 ≠ w.heap.size + 1 + 1; omega)).trans (Go.Boxed.set _ hx1)
  have hK' : ((V.setCell ⟨w.heap.size + 1, 0, none⟩ (.string ⟨#[]⟩)).setCell ⟨w.heap.size + 1 + 1, 0, none⟩ (.bool false)).heap[D]? = some (.deferred (some [])) := by
   have := HS0.out
   rw [Below.heap_setCell _ _ _ _ (show D ≠ w.heap.size + 1 + 1 by omega), Below.heap_setCell _ _ _ _ (show D ≠ w.heap.size + 1 by omega)]
   exact hK
  have hVB' := (HVB.setCell (p := ⟨w.heap.size + 1, 0, none⟩) (by show w.heap.size ≤ w.heap.size + 1; omega) (.string ⟨#[]⟩)).setCell (p := ⟨w.heap.size + 1 + 1, 0, none⟩) (by show w.heap.size ≤ w.heap.size + 1 + 1; omega) (.bool false)
  have e1 : gotV zs k.data.toList = ⟨#[]⟩ := by unfold gotV; rw [hn]; rfl
  have e2 : gotB zs k.data.toList = false := by unfold gotB; rw [hn]; rfl
  gi_wp2
  generalize (V.setCell ⟨w.heap.size + 1, 0, none⟩ (.string ⟨#[]⟩)).setCell ⟨w.heap.size + 1 + 1, 0, none⟩ (.bool false) = V2 at hx1' hx2' hK' hVB' ⊢
  have hne : ∀ j, j < w.heap.size + 4 → some j ≠ some D := fun j hj e => by have := HS0.out; injection e with e; omega
  have c1 := (hx1'.kept (grownBy_putObj' _ D (.deferred none)) (hne _ (by omega))).cell
  have c2 := (hx2'.kept (grownBy_putObj' _ D (.deferred none)) (hne _ (by omega))).cell
  refine ⟨by simp, .inl ⟨_, _, rfl, run_takeDeferred hK', ?_⟩⟩
  refine ⟨.tuple #[.string ⟨#[]⟩, .bool false], ?_, by rw [e1, e2], hVB'.grown (grownBy_putObj' _ D (.deferred none)) hVB'.size (fun q hq => by have := HS0.out; cases hq; omega)⟩
  simp [results, Tryz.f75, go_sem, c1, c2]
 case stop =>
  rintro D pre V hD hSp ⟨p0, x, h1, h2, h3, h4, h5, h6⟩ hK
  have hn := got_seq hSp h1 h2 h3
  have e1 : gotV zs k.data.toList = ba x.2.2 := by unfold gotV; rw [hn]; rfl
  have e2 : gotB zs k.data.toList = true := by unfold gotB; rw [hn]; rfl
  gi_wp2
  have hne : ∀ j, j < w.heap.size + 4 → some j ≠ some D := fun j hj e => by have := HS0.out; injection e with e; omega
  have c1 := (h4.kept (grownBy_putObj' _ D (.deferred none)) (hne _ (by omega))).cell
  have c2 := (h5.kept (grownBy_putObj' _ D (.deferred none)) (hne _ (by omega))).cell
  refine ⟨by simp, .inl ⟨_, _, rfl, run_takeDeferred hK, ?_⟩⟩
  refine ⟨.tuple #[.string (ba x.2.2), .bool true], ?_, by rw [e1, e2], h6.grown (grownBy_putObj' _ D (.deferred none)) h6.size (fun q hq => by have := HS0.out; cases hq; omega)⟩
  simp [results, Tryz.f75, go_sem, c1, c2]
end
end Go.Proofs.YtkcilmmaggmmoaaGreatDoor
