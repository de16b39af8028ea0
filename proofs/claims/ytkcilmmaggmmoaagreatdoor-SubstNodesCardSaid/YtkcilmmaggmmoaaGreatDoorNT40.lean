/- SubOrd, SubCol -/
import Derived.Deep.Cut
import Derived.Deep.RegionHeld3
import Derived.StillTail
import Derived.Test.YtkcilmmaggmmoaaGreatDoorNT20
import Derived.Test.YtkcilmmaggmmoaaGreatDoorNT23
import Derived.Test.YtkcilmmaggmmoaaGreatDoorNT36
import Derived.Test.YtkcilmmaggmmoaaGreatDoorNT39
import Derived.Test.YtkcilmmaggmmoaaGreatDoorProg
import Derived.WalkKit
set_option linter.unusedVariables false
set_option linter.unusedSimpArgs false
set_option maxRecDepth 100000
set_option maxHeartbeats 16000000
open Go.Lib (hid)
namespace Go.Proofs.YtkcilmmaggmmoaaGreatDoor
namespace N8
end N8
namespace Nw
end Nw
namespace S14
end S14
namespace T13
end T13
namespace V12
end V12
end Go.Proofs.YtkcilmmaggmmoaaGreatDoor
namespace Go.Proofs.YtkcilmmaggmmoaaGreatDoor
section
open Go.RowKit
section
variable {P : Program} {ops : Array Oper} {Q : Exit → Act → World → Prop} {md : Region.Mode} {S : World → Prop} {s : Nat}
def wpTill (P : Program) (md : Region.Mode) (ops : Array Oper) (Q : Exit → Act → World → Prop) (S : World → Prop) (s : Nat) : Nat → Array Bool → Act → World → Prop
 | 0, listed, a, w => Region.ready md ops listed = [] ∧ Q .normal a w
 | fuel + 1, listed, a, w =>
  (Region.ready md ops listed = [] → Q .normal a w) ∧
  ∀ i ∈ Region.ready md ops listed, wpOp P ops Q i (fun a' w' => ((listed.setIfInBounds i true).getD s true = false → S w') ∧ wpTill P md ops Q S s fuel (listed.setIfInBounds i true) a' w') a w
theorem till_any : ∀ (fuel : Nat) (listed : Array Bool) (a : Act) (w : World), wpTill P md ops Q S s fuel listed a w → wpAny P md ops Q fuel listed a w
 | 0, _, _, _, h => h
 | fuel + 1, _, _, _, h => ⟨h.1, fun i hi => wpOp_mono (fun a' w' h' => till_any fuel _ a' w' h'.2) (h.2 i hi)⟩
theorem ready_open {j : Nat} {listed : Array Bool} (h : j ∈ Region.ready md ops listed) : listed.getD j true = false := (mem_ready.1 h).1
theorem ready_free {i j : Nat} {listed : Array Bool} (hi : i ∈ Region.ready md ops listed) (hj : j ∈ Region.ready md ops listed) : ∃ oj, ops[j]? = some oj ∧ ∀ e ∈ oj.after, Region.binds md e = true → e.on ≠ i := by
 obtain ⟨-, oj, hoj, hall⟩ := mem_ready.1 hj
 refine ⟨oj, hoj, fun e he hb heq => ?_⟩
 have h1 := hall e he hb
 have h2 := getD_both (ready_open hi)
 rw [heq, h2] at h1
 cases h1
def chainW (md : Region.Mode) (ops : Array Oper) : Nat → List Nat → Bool
 | _, [] => true
 | i, k :: r => Region.waitsFor md ops k i && chainW md ops k r
theorem chain_off {listed : Array Bool} : ∀ (ps : List Nat) (i : Nat), chainW md ops i ps = true → listed.getD i true = false → (∀ k ∈ ps, listed.getD k true = false) → ∀ k ∈ ps, k ∉ Region.ready md ops listed
 | k :: r, i, hc, hi, hu, j, hj => by
  unfold chainW at hc
  rw [Bool.and_eq_true] at hc
  rcases List.mem_cons.1 hj with rfl | hj
  ·intro hr
   obtain ⟨oj, hoj, e, he, hb, hon⟩ := Region.waitsFor_spec hc.1
   obtain ⟨-, ok, hok, hall⟩ := mem_ready.1 hr
   rw [hoj] at hok
   injection hok with hok
   subst hok
   have h1 := hall e he hb
   rw [hon, getD_both hi] at h1
   cases h1
  ·exact chain_off r k hc.2 (hu k List.mem_cons_self) (fun m hm => hu m (List.mem_cons_of_mem _ hm)) j hj
theorem till_first {i : Nat} {oi : Oper} {v : Value} (ps : List Nat) (hi : ops[i]? = some oi) (hsel : ∀ (j : Nat) (o : Oper) cs b, ops[j]? = some o → o.op ≠ .select cs b)
  (hQ : ∀ c a w, Q (.panic c) (a.put oi.dst v) w → Q (.panic c) a w) (hc : chainW md ops i ps = true) (hsp : s ∈ ps) (hip : i ∉ ps) :
  ∀ (fuel : Nat) (listed : Array Bool) (a : Act) (w : World),
   (∀ j oj, ops[j]? = some oj → j ≠ i → listed.getD j true = false → (∀ e ∈ oj.after, Region.binds md e = true → e.on ≠ i) → oi.apart ops oj = true) →
   i ∈ Region.ready md ops listed → (∀ k ∈ ps, listed.getD k true = false) → YieldsIf P ops S oi v a → S w →
   wpTill P md ops Q S s fuel (listed.setIfInBounds i true) (a.put oi.dst v) w → wpTill P md ops Q S s (fuel + 1) listed a w := by
 intro fuel
 induction fuel with
 | zero =>
  intro listed a w _ hr hu hy hS H
  refine ⟨fun h => (by rw [h] at hr; cases hr), fun j hj => ?_⟩
  rcases Decidable.em (j = i) with rfl | hne
  ·exact hy.wpOp hi hS ⟨fun _ => hS, H⟩
  ·have h0 := ready_mono hj hne
   rw [H.1] at h0
   cases h0
 | succ fuel ih =>
  intro listed a w hap hr hu hy hS H
  refine ⟨fun h => (by rw [h] at hr; cases hr), fun j hj => ?_⟩
  rcases Decidable.em (j = i) with rfl | hne
  ·exact hy.wpOp hi hS ⟨fun _ => hS, H⟩
  ·obtain ⟨oj, hoj, hno⟩ := ready_free hr hj
   have hjo := ready_open hj
   have hjp : ∀ k ∈ ps, j ≠ k := fun k hk e => chain_off ps i hc (ready_open hr) hu k hk (e ▸ hj)
   have hus : ∀ (l : Array Bool) (q k : Nat), q ≠ k → l.getD k true = false → (l.setIfInBounds q true).getD k true = false := fun l q k hk hl => by rw [getD_set_ne true hk]; exact hl
   have hne2 : i ≠ s := fun e => hip (e ▸ hsp)
   refine wpOp_mono (fun a' w' h3 => ?_) (wpOp_putIf hoj (hap j oj hoj hne hjo hno) (fun cs b => hsel i oi cs b hi) (fun cs b => hsel j oj cs b hoj) hQ hy (H.2 j (ready_mono hj hne)))
   have hS' : S w' := h3.2.1 (hus _ j s (hjp s hsp) (hus _ i s hne2 (hu s hsp)))
   refine ⟨fun _ => hS', ih _ a' w' (fun k ok hk hki hun hn => hap k ok hk hki ?_ hn) (ready_mono hr (Ne.symm hne)) (fun k hk => hus _ j k (hjp k hk) (hu k hk)) h3.1 hS' ?_⟩
   ·rcases Decidable.em (j = k) with rfl | hjk
    ·exact hjo
    ·rwa [getD_set_ne true hjk] at hun
   ·have h4 := h3.2.2
    rwa [Array.setIfInBounds_comm _ _ (Ne.symm hne)] at h4
theorem till_take (i : Nat) (ps : List Nat) (v : Value) {fuel : Nat} {listed : Array Bool} {a : Act} {w : World} (hs : Region.noSelect ops = true) (hf : Region.free md ops listed i = true) (hr : (Region.ready md ops listed).contains i = true)
  (hw : chainW md ops i ps = true) (hu : (ps.contains s && !ps.contains i && ps.all fun k => !listed.getD k true) = true) (hQ : ∀ d c a w, Q (.panic c) (a.put d v) w → Q (.panic c) a w) (hS : S w)
  (ho : match ops[i]? with | some o => YieldsIf P ops S o v a ∧ wpTill P md ops Q S s fuel (listed.setIfInBounds i true) (a.put o.dst v) w | none => False) : wpTill P md ops Q S s (fuel + 1) listed a w := by
 rw [Bool.and_eq_true, Bool.and_eq_true] at hu
 obtain ⟨⟨h1, h2⟩, h3⟩ := hu
 cases hi : ops[i]? with
 | none => rw [hi] at ho; exact ho.elim
 | some oi =>
  rw [hi] at ho
  refine till_first ps hi (Region.noSelect_spec hs) (hQ oi.dst) hw (by simpa using h1) (by simpa using h2) fuel listed a w (Region.free_spec hi hf) (by simpa using hr) (fun k hk => ?_) ho.1 hS ho.2
  have := List.all_eq_true.1 h3 k hk
  simpa using this
theorem till_one (i : Nat) {fuel : Nat} {listed : Array Bool} {a : Act} {w : World} (hr : Region.ready md ops listed = [i])
  (h : wpOp P ops Q i (fun a' w' => ((listed.setIfInBounds i true).getD s true = false → S w') ∧ wpTill P md ops Q S s fuel (listed.setIfInBounds i true) a' w') a w) : wpTill P md ops Q S s (fuel + 1) listed a w :=
 ⟨fun h0 => (by rw [hr] at h0; cases h0), fun j hj => by rw [hr, List.mem_singleton] at hj; subst hj; exact h⟩
theorem till_done {listed : Array Bool} {a : Act} {w : World} (hr : Region.ready md ops listed = []) (h : Q .normal a w) : ∀ fuel, wpTill P md ops Q S s fuel listed a w
 | 0 => ⟨hr, h⟩
 | _ + 1 => ⟨fun _ => h, by rw [hr]; simp⟩
theorem till_step {i : Nat} {fuel : Nat} {listed : Array Bool} {a : Act} {w : World} (hi : (ops[i]?).isSome = true)
  (ho : ∀ o, ops[i]? = some o → ∀ K' : Act → World → Prop, Shut (∀ a w, ((listed.setIfInBounds i true).getD s true = false → S w) → wpTill P md ops Q S s fuel (listed.setIfInBounds i true) a w → K' a w) → if Region.wanted o (yielded ops a.tmps) = true then Oper.wp P o a w K' Q else K' (a.put o.dst undef) w) :
  wpOp P ops Q i (fun a' w' => ((listed.setIfInBounds i true).getD s true = false → S w') ∧ wpTill P md ops Q S s fuel (listed.setIfInBounds i true) a' w') a w := by
 obtain ⟨o, hi⟩ := Option.isSome_iff_exists.1 hi
 exact wpOp_step hi fun K' hK => ho o hi K' fun a w h1 h2 => hK a w ⟨h1, h2⟩
theorem wp_region_till (s : Nat) (S : World → Prop) {id : Nat} {a : Act} {w : World} (hm : P.follows .mixedOrders = true) (h : wpTill P .any ops Q S s ops.size (Array.replicate ops.size false) a w.drew) : (Code.region id ops true).wp P Q a w :=
 wp_region_any hm (till_any _ _ _ _ h)
end
end
section
open Go.RowKit Go.Sort
open Nw T13 V12 S14 Go.ChangeShapes Go.WideShapes
open N8 (Nd)
def PA14 (w0 : World) (g : Nat) (a : List L8) (W : World) : Prop :=
 Below w0.heap.size w0 W ∧ w0.heap.size ≤ g ∧ ∃ v, W.heap[g]? = some (.cells #[v] 22 (0, 0)) ∧ W.ownsRow w0.heap.size 9 1 v a.length (a.map encStr) ∧ v.ownBlock ≠ some g
theorem pa_pc {w0 : World} {g : Nat} (a : List L8) (W : World) (h : PA14 w0 g a W) : Col.Pc g W ∧ w0.heap.size ≤ g := by
 obtain ⟨hb, hg, v, hbx, hown, hne⟩ := h
 refine ⟨fun b hc => ?_, hg⟩
 rcases hc with rfl | ⟨u, hu, hub⟩
 ·exact (Array.getElem?_eq_some_iff.1 hbx).1
 ·have : W.cell? ⟨g, 0, none⟩ = some v := cell_of_row W g 0 _ _ (0, 0) hbx
  rw [this] at hu
  injection hu with hu
  subst hu
  exact (hown.lt b hub).2
theorem pa_keep {w0 : World} {g : Nat} (a : List L8) (W W' : World) (h : PA14 w0 g a W) (hb : Below w0.heap.size W W') (hc : ∀ b, Col.Cl g W b → W'.heap[b]? = W.heap[b]?) : PA14 w0 g a W' := by
 obtain ⟨hb0, hg, v, hbx, hown, hne⟩ := h
 have hcell : W.cell? ⟨g, 0, none⟩ = some v := cell_of_row W g 0 _ _ (0, 0) hbx
 exact ⟨hb0.trans hb, hg, v, (hc g (.inl rfl)).trans hbx, owns_keep hown fun k hk => hc k (.inr ⟨v, hcell, hk⟩), hne⟩
def nmF (t : L8) : List L8 := sortL (namX t)
theorem nmF_len (t : L8) : (nmF t).length ≤ 2 * t.length := by
 unfold nmF
 refine Nat.le_trans (sortL_length_le _) ?_
 unfold namX
 cases hR : prsT t with
 | err e => exact Nat.zero_le _
 | ok ps r => exact Nat.le_trans (namL_len ps) (Nat.le_trans (cntL_le ps 1 (prsT_wf hR).1) (prsT_size hR))
theorem nmF_all : ∀ (ts : List L8), (∀ t ∈ ts, t.length ≤ 200) → (ts.flatMap nmF).length ≤ 400 * ts.length
 | [], _ => by simp
 | t :: ts, h => by
  rw [List.flatMap_cons, List.length_append, List.length_cons]
  have h1 := nmF_len t
  have h2 := h t (List.mem_cons_self ..)
  have h3 := nmF_all ts fun x hx => h x (List.mem_cons_of_mem _ hx)
  omega
theorem pa_grow {w0 W W2 W3 : World} {g n m : Nat} {a L : List L8} {v v' : Value} {X : List Value} (hb0 : Below w0.heap.size w0 W) (hg : w0.heap.size ≤ g) (hown : W.ownsRow w0.heap.size 9 1 v n X) (hpc : Col.Pc g W) (hbx : W.heap[g]? = some (.cells #[v] 22 (0, 0)))
  (hn : a.length = n) (hX : a.map encStr = X) (hne : v.ownBlock ≠ some g) (hm : L.length = m)
  (hb : Below W.heap.size W W2) (ho : W3.ownsRow w0.heap.size 9 1 v' (n + m) (X ++ L.map encStr)) (hgr : W2.grownBy W3 v.ownBlock) (hat : v'.ownBlock = v.ownBlock ∨ v'.ownBlock = some W2.heap.size) :
  PA14 w0 g (a ++ L) (W3.setCell ⟨g, 0, none⟩ v') ∧ Col.Kx g W (W3.setCell ⟨g, 0, none⟩ v') := by
 have hglt := hpc.lt
 have hne' : v'.ownBlock ≠ some g := by
  rcases hat with e | e
  ·rw [e]; exact hne
  ·rw [e]; intro h9; injection h9 with h9; have := hb.size; omega
 have hvlt : ∀ k, v.ownBlock = some k → w0.heap.size ≤ k ∧ k < W.heap.size := fun k hk => hown.lt k hk
 have hbox : W3.heap[g]? = some (.cells #[v] 22 (0, 0)) := (hgr.block g (by have := hb.size; omega) (fun e => hne e.symm)).trans ((hb.block g hglt).trans hbx)
 have hcf : (W3.setCell ⟨g, 0, none⟩ v').heap[g]? = some (.cells #[v'] 22 (0, 0)) := Lib.heap_setCell_same (i := 0) hbox v'
 have hoth : ∀ b, b ≠ g → (W3.setCell ⟨g, 0, none⟩ v').heap[b]? = W3.heap[b]? := fun b hbg => Below.heap_setCell _ _ _ _ hbg
 have hsz : (W3.setCell ⟨g, 0, none⟩ v').heap.size = W3.heap.size := by simp
 have hB3 : Below w0.heap.size W W3 := ⟨hgr.os.trans hb.os, hgr.tape.trans hb.tape, hgr.output.trans hb.output, Nat.le_trans hb.size hgr.size, fun k hk => (hgr.block k (by have := hb0.size; have := hb.size; omega) (fun e => by have := (hvlt k e.symm).1; omega)).trans (hb.block k (by have := hb0.size; omega))⟩
 refine ⟨⟨hb0.trans (hB3.setCell (p := ⟨g, 0, none⟩) hg v'), hg, v', hcf, ?_, hne'⟩, ?_⟩
 ·have h9 := owns_keep (w' := W3.setCell ⟨g, 0, none⟩ v') ho fun k hk => hoth k (fun e => hne' (by rw [hk, e]))
  rw [List.length_append, List.map_append, hn, hX, hm]
  exact h9
 ·have hb9 : Below 0 W3 (W3.setCell ⟨g, 0, none⟩ v') := (Below.refl 0 W3).setCell (p := ⟨g, 0, none⟩) (Nat.zero_le _) v'
  refine ⟨hb9.os.trans hB3.os, hb9.tape.trans hB3.tape, hb9.output.trans hB3.output, Nat.le_trans hB3.size hb9.size, fun b ht => ?_, fun b hc => ?_⟩
  ·have h1 : b ≠ g := fun e => ht.2 (.inl e)
   have h2 : v.ownBlock ≠ some b := fun e => ht.2 (.inr ⟨v, cell_of_row W g 0 _ _ (0, 0) hbx, e⟩)
   exact (hoth b h1).trans ((hgr.block b (by have := ht.1; have := hb.size; omega) (fun e => h2 e.symm)).trans (hb.block b ht.1))
  ·rcases hc with rfl | ⟨u, hu, hub⟩
   ·exact .inl (.inl rfl)
   ·have hcv : (W3.setCell ⟨g, 0, none⟩ v').cell? ⟨g, 0, none⟩ = some v' := cell_of_row _ g 0 _ _ (0, 0) hcf
    rw [hcv] at hu
    injection hu with hu
    subst hu
    rcases hat with e | e
    ·exact .inl (.inr ⟨v, cell_of_row W g 0 _ _ (0, 0) hbx, by rw [← e]; exact hub⟩)
    ·rw [e] at hub
     injection hub with hub
     subst hub
     exact .inr ⟨hb.size, by have := (ho.lt _ e).2; rw [hsz]; exact this⟩
theorem step_append_none14 {P : Program} {ops : Array Oper} {o : Oper} {a : Act} {w : World} {K : Act → World → Prop} {Q : Exit → Act → World → Prop} {E : Prop} (hg : o.guard = none) (s x : Operand) (t : TypeId)
  (ho : o.op = .call { callee := .builtin .append, args := #[s, x], argTypes := #[t, t] })
  (base : Nat) (e : TypeId) (i : TypeInfo) (size : Nat) (ht : P.underlying t = some (.slice e)) (hi : P.info? e = some i)
  (v : Value) (n : Nat) (xs : List Value) (hs : a.eval s = v) (hown : w.ownsRow base e size v n xs) (hx : a.eval x = .slice none 0 0)
  (h : K (a.put o.dst v) w) : if Region.wanted o (yielded ops a.tmps) = true then Oper.wp P o a w K Q else E := by
 rw [if_pos (by simp [Region.wanted, hg])]
 have hrun := run_append_owned_none (P := P) (w := w) base t o.type e i size ht hi v n xs hown
 unfold Oper.wp
 simp [execOp, ho, resolve, invoke, builtin, hs, hx, hrun, Result.andThen]
 exact h
theorem strs_one (L : List L8) : ∀ u ∈ L.map encStr, u.oneCell' = true := by
 intro u hu
 obtain ⟨x, -, rfl⟩ := List.mem_map.1 hu
 rfl
theorem rd_src {W : World} {r : Value} {L : List L8} (h : Rd W r L) : (r = .slice none 0 0 ∧ L = []) ∨ ∃ (A : Addr) (c : Nat), r = .slice (some A) L.length c ∧ ∀ j u, (L.map encStr)[j]? = some u → W.cell? (A.add j) = some u := by
 obtain ⟨a, cap, rfl, h1, h2, h3⟩ := h
 rcases h3 with ⟨rfl, h4⟩ | ⟨b, o, rfl, hb, h5⟩
 ·cases a with
  | none => exact .inl ⟨by rw [h4 rfl]; rfl, rfl⟩
  | some A => exact .inr ⟨A, cap, rfl, fun j u hu => by simp at hu⟩
 ·refine .inr ⟨⟨b, o, none⟩, cap, rfl, fun j u hu => ?_⟩
  obtain ⟨hj, rfl⟩ := List.getElem?_eq_some_iff.1 hu
  rw [List.length_map] at hj
  rw [List.getElem_map, add_plain]
  exact h5 j hj
section
variable (Pw : World → Prop) (hPw : ∀ w w', Pw w → Below w.heap.size w w' → Pw w')
variable (HParse : ∀ (s : ByteArray) (W : World), Pw W → s.size ≤ 100000 → Calls Tryz.prog 22 #[.string s] W (GivesP (T13.prsT s.data.toList) W))
variable (HNamesP : ∀ (v : Value) (ps : List Pt) (W : World), Pw W → PtW W v ps → WfL 1 ps → cntL ps ≤ 100000 → Calls Tryz.prog 23 #[v] W fun e w' => ∃ v', e = .returned v' ∧ Rd w' v' (sortL (namL ps)) ∧ Below W.heap.size W w')
include hPw HParse HNamesP
theorem ncol_any (w0 : World) (hw0 : Pw w0) (g : Nat) (s : ByteArray) (a : List L8) (W : World) (h : PA14 w0 g a W) (hs : s.data.toList.length ≤ 1000) (hl : a.length + (nmF s.data.toList).length ≤ 1000000) :
  Calls Tryz.prog 21 #[.string s, .pointer (some ⟨g, 0, none⟩)] W (fun e W' => e = .returned (.tuple #[.string s, .int .i64 0]) ∧ PA14 w0 g (a ++ nmF s.data.toList) W' ∧ Col.Kx g W W') := by
 have hpc := (pa_pc a W h).1
 obtain ⟨hb0, hg, v, hbx, hown, hne⟩ := h
 have hW : Pw W := hPw _ _ hw0 hb0
 obtain ⟨l, hlw, hlc, hln, hp⟩ : ∃ l, WfL 1 l ∧ cntL l ≤ 100000 ∧ namL l = namX s.data.toList ∧ Calls Tryz.prog 22 #[.string s] W fun e w' => ∃ u n, e = .returned (.tuple #[u, .int .i64 n]) ∧ PtW w' u l ∧ Below W.heap.size W w' := by
  have hq := HParse s W hW (by have h9 : s.data.toList.length = s.size := rfl; omega)
  unfold namX
  cases hR : prsT s.data.toList with
  | err er =>
   rw [hR] at hq
   refine ⟨[], by rw [WfL]; trivial, Nat.zero_le _, by rw [namL], hq.mono ?_⟩
   rintro e w' ⟨u, rfl, hu, hb⟩
   exact ⟨u, er, rfl, hu, hb⟩
  | ok ps r =>
   rw [hR] at hq
   refine ⟨ps, (prsT_wf hR).1, by have h1 := prsT_size hR; have h2 := cntL_le ps 1 (prsT_wf hR).1; omega, rfl, hq.mono ?_⟩
   rintro e w' ⟨u, rfl, hu, hb⟩
   exact ⟨u, 0, rfl, hu, hb⟩
 have hFL : nmF s.data.toList = sortL (namL l) := by unfold nmF; rw [hln]
 rw [hFL] at hl ⊢
 obtain ⟨L, hL⟩ : ∃ L, sortL (namL l) = L := ⟨_, rfl⟩
 rw [hL] at hl ⊢
 have HN : Hid (∀ V u, Below W.heap.size W V → PtW V u l → Calls Tryz.prog 23 #[u] V fun e w' => ∃ v', e = .returned v' ∧ Rd w' v' L ∧ Below V.heap.size V w') := hid (fun V u hV hu => by
  have := HNamesP u l V (hPw _ _ hW hV) hu hlw hlc
  rw [hL] at this
  exact this)
 obtain ⟨i0, hi, hz0, hz1, hz2⟩ := infoS13
 have hcell : W.cell? ⟨g, 0, none⟩ = some v := cell_of_row W g 0 _ _ (0, 0) hbx
 have hglt : g < W.heap.size := hpc.lt
 have hfz : W.frozen? ⟨g, 0, none⟩ = false := frozen_of_row W g 0 _ _ hbx
 obtain ⟨n, hn⟩ : ∃ n, a.length = n := ⟨_, rfl⟩
 obtain ⟨X, hX⟩ : ∃ X, a.map encStr = X := ⟨_, rfl⟩
 rw [hn, hX] at hown
 rw [hn] at hl
 have HP0 := hid (And.intro hb0 (And.intro hg (And.intro hown (And.intro hpc hbx))))
 have HNX := hid (And.intro hn (And.intro hX hne))
 clear hW hw0 HParse HNamesP hPw hlw hlc hln hFL hL hn hX hs hb0 hg hbx hown hpc hne
 go_enter Tryz.func21, Tryz.ntmps21
 go_upto_region 2 with (go_at_call 22; refine hp.mono ?_; rintro e W1 ⟨u, m1, rfl, hu, hb1⟩; obtain ⟨B, m, k, rfl⟩ := PtL.slice hu; have HU := hid hu; have HB1 := hid hb1; clear hu hb1)
 have hc1 : W1.cell? ⟨g, 0, none⟩ = some v := (HB1.out.cell (p := ⟨g, 0, none⟩) hglt).trans hcell
 have hf1 : W1.frozen? ⟨g, 0, none⟩ = false := (HB1.out.frozen (p := ⟨g, 0, none⟩) hglt).trans hfz
 have hS0 : W1.drew.cell? ⟨g, 0, none⟩ = some v := hc1
 have hbd : Below W1.heap.size W1 W1.drew := ⟨rfl, rfl, rfl, Nat.le_refl _, fun _ _ => rfl⟩
 have HN1 := hid (HN.out W1.drew (.slice B m k) (HB1.out.trans (hbd.mono HB1.out.size)) (HU.out.below hbd))
 have hB2 := HB1.out.trans (hbd.mono HB1.out.size)
 have HB2 := hid hB2
 clear hc1 HN HU hbd hB2
 refine wp_region_noPanic ?_
 refine wp_region_till 4 (fun W => W.cell? ⟨g, 0, none⟩ = some v) (by kernel_rfl) ?_
 refine till_take 0 [3, 4] v (by kernel_rfl) (by kernel_rfl) (by kernel_rfl) (by kernel_rfl) (by kernel_rfl) (fun _ _ _ _ h => h) hS0 ?_
 simp only [List.getElem?_toArray, List.getElem?_cons_succ, List.getElem?_cons_zero]
 refine ⟨Or.inl ⟨by rfl, ?_⟩, ?_⟩
 ·intro W HSW
  go_simp
 simp only [Act.put, List.setIfInBounds_toArray, List.set_cons_zero, List.set_cons_succ]
 refine till_one 1 (by kernel_rfl) ?_
 refine till_step (by kernel_rfl) ?_
 intro o9 ho9 Kx hKx
 simp only [List.getElem?_toArray, List.getElem?_cons_succ, List.getElem?_cons_zero, Option.some.injEq] at ho9
 subst ho9
 go_simp
 refine hKx.out _ _ (fun _ => hS0) ?_
 clear hKx Kx
 try simp only [Act.put, List.setIfInBounds_toArray, List.set_cons_zero, List.set_cons_succ]
 refine till_one 2 (by kernel_rfl) ?_
 refine till_step (by kernel_rfl) ?_
 intro o9 ho9 Kx hKx
 simp only [List.getElem?_toArray, List.getElem?_cons_succ, List.getElem?_cons_zero, Option.some.injEq] at ho9
 subst ho9
 go_simp
 refine HN1.out.mono ?_
 rintro e W2 ⟨r, rfl, hrd, hb2⟩
 have HP2 : Hid (Below W.heap.size W W2) := hid (HB2.out.trans (hb2.mono HB2.out.size))
 have hS2 : W2.cell? ⟨g, 0, none⟩ = some v := (HP2.out.cell (p := ⟨g, 0, none⟩) hglt).trans hcell
 have hf2 : W2.frozen? ⟨g, 0, none⟩ = false := (HP2.out.frozen (p := ⟨g, 0, none⟩) hglt).trans hfz
 have hown2 := owns_below HP0.out.2.2.1 HP2.out
 have hbs2 : w0.heap.size ≤ W2.heap.size := Nat.le_trans HP0.out.1.size HP2.out.size
 have HRD := hid hrd
 refine hKx.out _ _ (fun _ => hS2) ?_
 clear hKx Kx hrd hb2
 try simp only [Act.put, List.setIfInBounds_toArray, List.set_cons_zero, List.set_cons_succ]
 refine till_one 3 (by kernel_rfl) ?_
 refine till_step (by kernel_rfl) ?_
 intro o9 ho9 Kx hKx
 simp only [List.getElem?_toArray, List.getElem?_cons_succ, List.getElem?_cons_zero, Option.some.injEq] at ho9
 subst ho9
 rcases rd_src HRD.out with ⟨rfl, rfl⟩ | ⟨A, c9, rfl, hnews⟩
 ·have hFIN := pa_grow HP0.out.1 HP0.out.2.1 HP0.out.2.2.1 HP0.out.2.2.2.1 HP0.out.2.2.2.2 HNX.out.1 HNX.out.2.1 HNX.out.2.2 (L := []) (m := 0) rfl HP2.out (by rw [List.map_nil, List.append_nil]; exact hown2) ⟨rfl, rfl, rfl, Nat.le_refl _, fun _ _ _ => rfl⟩ (.inl rfl)
  have HFIN := hid hFIN
  refine step_append_none14 rfl _ _ 22 rfl w0.heap.size 9 i0 1 Tryz.underlying22 hi v n X (by rfl) hown2 (by rfl) ?_
  refine hKx.out _ _ (fun _ => hS2) ?_
  clear hKx Kx hFIN
  try simp only [Act.put, List.setIfInBounds_toArray, List.set_cons_zero, List.set_cons_succ]
  refine till_one 4 (by kernel_rfl) ?_
  refine till_step (by kernel_rfl) ?_
  intro o9 ho9 Kx hKx
  simp only [List.getElem?_toArray, List.getElem?_cons_succ, List.getElem?_cons_zero, Option.some.injEq] at ho9
  subst ho9
  obtain ⟨va, vc, rfl⟩ := own_shape hown2
  go_simp
  refine hKx.out _ _ (fun h => absurd h (by decide)) ?_
  clear hKx Kx
  try simp only [Act.put, List.setIfInBounds_toArray, List.set_cons_zero, List.set_cons_succ]
  refine till_done (by kernel_rfl) ?_ _
  refine NoPanic.normal ?_
  go_wp2
  go_ret2
  exact ⟨rfl, HFIN.out⟩
 ·refine step_append_own_at rfl _ _ 22 rfl w0.heap.size 9 i0 _ 1 16 Tryz.underlying22 hi hz0 hz1 hz2 rfl (by decide) v n X (by rfl) hown2 A L.length c9 (L.map encStr) (by rfl) (by rw [List.length_map, Nat.mul_one]) hnews (strs_one L) (by unfold maxLen; omega) (by omega) hbs2 ?_
  intro v' W3 ho3 hg3 hat3
  obtain ⟨va, vc, rfl⟩ := own_shape ho3
  have HFIN := hid (pa_grow HP0.out.1 HP0.out.2.1 HP0.out.2.2.1 HP0.out.2.2.2.1 HP0.out.2.2.2.2 HNX.out.1 HNX.out.2.1 HNX.out.2.2 rfl HP2.out ho3 hg3 hat3)
  have hS3 : W3.cell? ⟨g, 0, none⟩ = some v := cell_grown hS2 hg3 HNX.out.2.2
  have hf3 : W3.frozen? ⟨g, 0, none⟩ = false := frozen_grown hf2 hg3 (by have := HP2.out.size; show g < W2.heap.size; omega) HNX.out.2.2
  refine hKx.out _ _ (fun _ => hS3) ?_
  clear hKx Kx ho3 hg3 hat3
  try simp only [Act.put, List.setIfInBounds_toArray, List.set_cons_zero, List.set_cons_succ]
  refine till_one 4 (by kernel_rfl) ?_
  refine till_step (by kernel_rfl) ?_
  intro o9 ho9 Kx hKx
  simp only [List.getElem?_toArray, List.getElem?_cons_succ, List.getElem?_cons_zero, Option.some.injEq] at ho9
  subst ho9
  go_simp
  refine hKx.out _ _ (fun h => absurd h (by decide)) ?_
  clear hKx Kx
  try simp only [Act.put, List.setIfInBounds_toArray, List.set_cons_zero, List.set_cons_succ]
  refine till_done (by kernel_rfl) ?_ _
  refine NoPanic.normal ?_
  go_wp2
  go_ret2
  exact ⟨rfl, HFIN.out⟩
end
end
end Go.Proofs.YtkcilmmaggmmoaaGreatDoor
