/- NamMath, TmpMath, EnvMath, EnvMem -/
import Derived.Lib.Bytealg
import Derived.Lib.Hide
import Derived.Lib.IndexMore
import Derived.Lib.Replace
import Derived.OpenShut
import Derived.ProofKit
import Derived.SliceStrings
import Derived.Test.YtkcilmmaggmmoaaGreatDoorNT1
import Derived.Test.YtkcilmmaggmmoaaGreatDoorNT4
import Derived.Test.YtkcilmmaggmmoaaGreatDoorRows
set_option linter.unusedVariables false
set_option linter.unusedSimpArgs false
set_option maxRecDepth 100000
set_option maxHeartbeats 16000000
namespace Go.Proofs.YtkcilmmaggmmoaaGreatDoor
namespace Nw
end Nw
namespace Q6
end Q6
namespace V12
end V12
end Go.Proofs.YtkcilmmaggmmoaaGreatDoor
namespace Go.Proofs.YtkcilmmaggmmoaaGreatDoor
namespace Nw
def low (c : UInt8) : Bool := decide (97 ≤ c.toNat) && decide (c.toNat ≤ 122)
def upp (c : UInt8) : Bool := decide (65 ≤ c.toNat) && decide (c.toNat ≤ 90)
def dig (c : UInt8) : Bool := decide (48 ≤ c.toNat) && decide (c.toNat ≤ 57)
def isC (n : Nat) (c : UInt8) : Bool := decide (c.toNat = n)
def v1 (c : UInt8) : Bool := low c || upp c || isC 95 c
def v2 (c : UInt8) : Bool := v1 c || dig c
def kind (c : UInt8) : Nat :=
 if 97 ≤ c.toNat ∧ c.toNat ≤ 122 then 1 else if 65 ≤ c.toNat ∧ c.toNat ≤ 90 then 2 else if 48 ≤ c.toNat ∧ c.toNat ≤ 57 then 3
 else if c.toNat = 95 then 4 else if c.toNat = 45 then 5 else if c.toNat = 46 then 6 else 0
theorem kind_le (c : UInt8) : kind c ≤ 6 := by unfold kind; repeat' split <;> try omega
def okAt (a b : UInt8 → Bool) (j : Nat) (c : UInt8) : Bool := if j = 0 then a c else b c
def good (a b : UInt8 → Bool) (l : List UInt8) (k : Nat) : Prop := ∀ j, j < k → okAt a b j (l.getD j 0) = true
instance (a b : UInt8 → Bool) (l : List UInt8) (k : Nat) : Decidable (good a b l k) := by unfold good; infer_instance
def nm (a b : UInt8 → Bool) (l : List UInt8) : Bool := decide (0 < l.length ∧ l.length ≤ 24 ∧ good a b l l.length)
theorem good_zero (a b) (l : List UInt8) : good a b l 0 := fun _ hj => absurd hj (Nat.not_lt_zero _)
theorem good_succ {a b} {l : List UInt8} {k : Nat} (h : good a b l k) (h1 : okAt a b k (l.getD k 0) = true) : good a b l (k + 1) := fun j hj => by
 rcases Nat.lt_succ_iff_lt_or_eq.1 hj with h2 | rfl
 ·exact h j h2
 ·exact h1
theorem nm_yes {a b} {l : List UInt8} (h0 : 0 < l.length) (h1 : l.length ≤ 24) (h : good a b l l.length) : nm a b l = true := decide_eq_true ⟨h0, h1, h⟩
theorem nm_not {a b} {l : List UInt8} {k : Nat} (hk : k < l.length) (h : okAt a b k (l.getD k 0) = false) : nm a b l = false :=
 decide_eq_false fun ⟨_, _, hg⟩ => by rw [hg k hk] at h; cases h
theorem nm_nil {a b} {l : List UInt8} (h : l.length = 0) : nm a b l = false := decide_eq_false fun ⟨h0, _, _⟩ => by omega
theorem nm_long {a b} {l : List UInt8} (h : 24 < l.length) : nm a b l = false := decide_eq_false fun ⟨_, h0, _⟩ => by omega
theorem all_256 (p : UInt8 → Bool) (h : (List.range 256).all (fun n => p (UInt8.ofNat n)) = true) (c : UInt8) : p c = true := by
 have := List.all_eq_true.1 h c.toNat (List.mem_range.2 c.toNat_lt)
 simpa using this
theorem k_v1 (c : UInt8) : v1 c = (decide (kind c ≠ 0) && decide (kind c ≤ 4) && decide (kind c ≠ 3)) := by
 have := all_256 (fun c => v1 c == (decide (kind c ≠ 0) && decide (kind c ≤ 4) && decide (kind c ≠ 3))) (by decide +kernel) c
 simpa using this
theorem k_v2 (c : UInt8) : v2 c = (decide (kind c ≠ 0) && decide (kind c ≤ 4)) := by
 have := all_256 (fun c => v2 c == (decide (kind c ≠ 0) && decide (kind c ≤ 4))) (by decide +kernel) c
 simpa using this
end Nw
end Go.Proofs.YtkcilmmaggmmoaaGreatDoor
namespace Go.Proofs.YtkcilmmaggmmoaaGreatDoor
namespace T13
open Nw
inductive Pt where
 | mk (name text : L8) (op : Int) (sub : List Pt)
def Pt.name : Pt → L8 | .mk n _ _ _ => n
def Pt.text : Pt → L8 | .mk _ t _ _ => t
def Pt.op : Pt → Int | .mk _ _ o _ => o
def isN (k : L8) : Bool := nm v1 v2 k
def lenN : L8 → Nat
 | [] => 0
 | c :: t => if v2 c then lenN t + 1 else 0
def opN (l : L8) : Int × Nat :=
 if l.getD 0 0 = 58 ∧ l.getD 1 0 = 45 then (2, 2) else if l.getD 0 0 = 58 ∧ l.getD 1 0 = 63 then (4, 2) else if l.getD 0 0 = 58 ∧ l.getD 1 0 = 43 then (6, 2)
 else if l.getD 0 0 = 45 then (3, 1) else if l.getD 0 0 = 63 then (5, 1) else if l.getD 0 0 = 43 then (7, 1) else (1, 0)
def litP (t : L8) : Pt := .mk [] t 0 []
def fl (done : List Pt) (lit : L8) : List Pt := if lit = [] then done else done ++ [litP lit]
inductive PR where
 | err (e : Int)
 | ok (ps : List Pt) (rest : L8)
inductive St where
 | stop
 | lit (b : UInt8) (r : L8)
 | bad (e : Int)
 | plain (n r : L8)
 | brc (n : L8) (o : Int) (v : L8)
def stp (d : Nat) (c : UInt8) (t : L8) : St :=
 if c = 125 ∧ 1 < d then .stop
 else if c ≠ 36 then .lit c t
 else if t.getD 0 0 = 36 then .lit 36 (t.drop 1)
 else if 8 < d then .bad 9
 else if t.getD 0 0 = 123 then
  (if isN ((t.drop 1).take (lenN (t.drop 1))) = false then .bad 3
  else if (opN ((t.drop 1).drop (lenN (t.drop 1)))).1 = 1 then
   (if ((t.drop 1).drop (lenN (t.drop 1))).getD 0 0 = 125 then .plain ((t.drop 1).take (lenN (t.drop 1))) (((t.drop 1).drop (lenN (t.drop 1))).drop 1) else .bad 3)
  else .brc ((t.drop 1).take (lenN (t.drop 1))) (opN ((t.drop 1).drop (lenN (t.drop 1)))).1 (((t.drop 1).drop (lenN (t.drop 1))).drop (opN ((t.drop 1).drop (lenN (t.drop 1)))).2))
 else if isN (t.take (lenN t)) = false then .bad 3
 else .plain (t.take (lenN t)) (t.drop (lenN t))
def prs : Nat → Nat → List Pt → L8 → L8 → PR
 | 0, _, _, _, _ => .err 0
 | _ + 1, _, done, lit, [] => .ok (fl done lit) []
 | f + 1, d, done, lit, c :: t => match stp d c t with
  | .stop => .ok (fl done lit) (c :: t)
  | .lit b r => prs f d done (lit ++ [b]) r
  | .bad e => .err e
  | .plain n r => prs f d (fl done lit ++ [.mk n [] 1 []]) [] r
  | .brc n o v => match prs f (d + 1) [] [] v with
   | .err e => .err e
   | .ok sub rest => if rest.getD 0 0 = 125 then prs f d (fl done lit ++ [.mk n [] o sub]) [] (rest.drop 1) else .err 3
def prsA (d : Nat) (done : List Pt) (lit l : L8) : PR := prs (l.length + 1) d done lit l
def prsT (s : L8) : PR := prsA 1 [] [] s
def markL (o : Int) : L8 := if o = 2 then [58, 45] else if o = 3 then [45] else if o = 4 then [58, 63] else if o = 5 then [63] else if o = 6 then [58, 43] else if o = 7 then [43] else []
def escD : L8 → L8
 | [] => []
 | c :: t => if c = 36 then 36 :: 36 :: escD t else c :: escD t
mutual
def txtP : Pt → L8
 | .mk n t o s => if o = 0 then escD t else 36 :: 123 :: (n ++ (markL o ++ ((if 1 < o then txtL s else []) ++ [125])))
def txtL : List Pt → L8
 | [] => []
 | p :: ps => txtP p ++ txtL ps
end
mutual
def namP : Pt → List L8
 | .mk n _ o s => (if o ≠ 0 then [n] else []) ++ namL s
def namL : List Pt → List L8
 | [] => []
 | p :: ps => namP p ++ namL ps
end
mutual
def depP : Pt → Nat
 | .mk _ _ o s => if o = 0 then 0 else 1 + depL s
def depL : List Pt → Nat
 | [] => 0
 | p :: ps => max (depP p) (depL ps)
end
mutual
def cntP : Pt → Nat
 | .mk _ _ _ s => 1 + cntL s
def cntL : List Pt → Nat
 | [] => 0
 | p :: ps => cntP p + cntL ps
end
def absb : List Pt → L8 → List Pt → List Pt × L8
 | done, lit, [] => (done, lit)
 | done, lit, p :: ps => if p.op = 0 then absb done (lit ++ p.text) ps else absb (fl done lit ++ [p]) [] ps
def calm (ps : List Pt) : Prop := fl (absb [] [] ps).1 (absb [] [] ps).2 = ps
mutual
def WfP : Nat → Pt → Prop
 | d, .mk n t o s => (o = 0 ∧ n = [] ∧ t ≠ [] ∧ s = [] ∧ (1 < d → (125 : UInt8) ∉ t)) ∨ (o = 1 ∧ isN n = true ∧ t = [] ∧ s = [] ∧ d ≤ 8) ∨ (2 ≤ o ∧ o ≤ 7 ∧ isN n = true ∧ t = [] ∧ d ≤ 8 ∧ WfL (d + 1) s ∧ calm s)
def WfL : Nat → List Pt → Prop
 | _, [] => True
 | d, p :: ps => WfP d p ∧ WfL d ps
end
end T13
end Go.Proofs.YtkcilmmaggmmoaaGreatDoor
namespace Go.Proofs.YtkcilmmaggmmoaaGreatDoor
namespace V12
open Nw Q6
abbrev KV := L8 × L8
def lastV : List KV → L8 → Option L8
 | [], _ => none
 | p :: l, k => match lastV l k with
  | some v => some v
  | none => if p.1 = k then some p.2 else none
def isV (k : L8) : Bool := nm v1 v2 k
def keysV (l : List KV) : List L8 := sortL ((l.map (·.1)).filter isV)
def gath (l : List KV) : List KV := (keysV l).map fun k => (k, (lastV l k).getD [])
def ofV (l : List KV) : List KV := (gath l).take 64
structure EnvOk (x : List KV) : Prop where
 asc : Asc (x.map (·.1))
 ok : ∀ p ∈ x, isV p.1 = true
theorem last_app : ∀ (a b : List KV) (k : L8), lastV (a ++ b) k = match lastV b k with | some v => some v | none => lastV a k
 | [], b, k => by cases h : lastV b k <;> simp [lastV, h]
 | p :: a, b, k => by
  show (match lastV (a ++ b) k with | some v => some v | none => if p.1 = k then some p.2 else none) = _
  rw [last_app a b k]
  cases h : lastV b k <;> simp [lastV]
theorem last_none : ∀ {l : List KV} {k : L8}, (∀ p ∈ l, p.1 ≠ k) → lastV l k = none
 | [], _, _ => rfl
 | p :: l, k, h => by
  show (match lastV l k with | some v => some v | none => if p.1 = k then some p.2 else none) = none
  rw [last_none fun q hq => h q (List.mem_cons_of_mem _ hq), if_neg (h p List.mem_cons_self)]
theorem mem_keys {l : List KV} {k : L8} : k ∈ keysV l ↔ isV k = true ∧ ∃ p ∈ l, p.1 = k := by
 unfold keysV
 rw [mem_sortL, List.mem_filter, List.mem_map]
 constructor
 ·rintro ⟨⟨p, hp, e⟩, h⟩; exact ⟨h, p, hp, e⟩
 ·rintro ⟨h, p, hp, e⟩; exact ⟨⟨p, hp, e⟩, h⟩
theorem gath_keys (l : List KV) : (gath l).map (·.1) = keysV l := by
 unfold gath
 rw [List.map_map]
 exact List.map_id'' (fun _ => rfl) _
theorem gath_ok (l : List KV) : EnvOk (gath l) :=
 ⟨by rw [gath_keys]; exact sortL_asc _, fun p hp => by
  have : p.1 ∈ (gath l).map (·.1) := List.mem_map.2 ⟨p, hp, rfl⟩
  rw [gath_keys] at this
  exact (mem_keys.1 this).1⟩
theorem EnvOk.take {x : List KV} (h : EnvOk x) (n : Nat) : EnvOk (x.take n) :=
 ⟨by rw [List.map_take]; exact List.Pairwise.sublist (List.take_sublist n _) h.asc, fun p hp => h.ok p (List.mem_of_mem_take hp)⟩
theorem of_ok (l : List KV) : EnvOk (ofV l) := (gath_ok l).take 64
theorem gath_len (l : List KV) : (gath l).length ≤ l.length := by
 unfold gath keysV
 rw [List.length_map]
 refine Nat.le_trans (sortL_length_le _) (Nat.le_trans (List.length_filter_le _ _) ?_)
 rw [List.length_map]
 exact Nat.le_refl _
theorem of_len (l : List KV) : (ofV l).length ≤ 64 ∧ (ofV l).length ≤ l.length := by
 unfold ofV
 have := gath_len l
 rw [List.length_take]
 omega
end V12
end Go.Proofs.YtkcilmmaggmmoaaGreatDoor
namespace Go.Proofs.YtkcilmmaggmmoaaGreatDoor
section
open Go.RowKit Go.Sort
open Nw V12 Go.ChangeShapes Go.WideShapes
def VR (w : World) (v : Value) (l : List KV) : Prop :=
 ∃ (a : Option Addr) (cap : Nat), v = .slice a l.length cap ∧ l.length ≤ cap ∧ cap ≤ maxLen ∧
  ((l = [] ∧ (a = none → cap = 0)) ∨ ∃ b o, a = some ⟨b, o, none⟩ ∧ b < w.heap.size ∧ ∀ j (h : j < l.length), w.cell? ⟨b, o + j * 2, none⟩ = some (.string (ba l[j].1)) ∧ w.cell? ⟨b, o + j * 2 + 1, none⟩ = some (.string (ba l[j].2)))
def KVok (l : List KV) : Prop := ∀ p ∈ l, p.1.length ≤ maxLen ∧ p.2.length ≤ maxLen
theorem VR.below {w w' : World} {v : Value} {l : List KV} (h : VR w v l) (hb : Below w.heap.size w w') : VR w' v l := by
 obtain ⟨a, cap, rfl, h1, h2, h3⟩ := h
 refine ⟨a, cap, rfl, h1, h2, ?_⟩
 rcases h3 with h3 | ⟨b, o, rfl, h4, h5⟩
 ·exact .inl h3
 ·exact .inr ⟨b, o, rfl, Nat.lt_of_lt_of_le h4 hb.size, fun j hj => ⟨(hb.cell (p := ⟨b, o + j * 2, none⟩) h4).trans (h5 j hj).1, (hb.cell (p := ⟨b, o + j * 2 + 1, none⟩) h4).trans (h5 j hj).2⟩⟩
theorem vr_nil (w : World) (a : Option Addr) (cap : Nat) (h : cap ≤ maxLen) (hn : a = none → cap = 0) : VR w (.slice a 0 cap) [] := ⟨a, cap, rfl, Nat.zero_le _, h, .inl ⟨rfl, hn⟩⟩
theorem VR.take {w : World} {v : Value} {l : List KV} (h : VR w v l) (n : Nat) (hn : n ≤ l.length) : ∃ a cap, v = .slice a l.length cap ∧ VR w (.slice a n cap) (l.take n) := by
 obtain ⟨a, cap, rfl, h1, h2, h3⟩ := h
 have hl : (l.take n).length = n := by rw [List.length_take]; omega
 refine ⟨a, cap, rfl, a, cap, by rw [hl], by rw [hl]; omega, h2, ?_⟩
 rcases h3 with ⟨rfl, h3⟩ | ⟨b, o, rfl, h4, h5⟩
 ·exact .inl ⟨by simp, h3⟩
 ·exact .inr ⟨b, o, rfl, h4, fun j hj => by
   have := h5 j (by rw [hl] at hj; omega)
   rw [List.getElem_take]
   exact this⟩
def encV (p : KV) : List Value := [.string (ba p.1), .string (ba p.2)]
def cellsV (l : List KV) : List Value := (l.map encV).flatten
theorem cellsV_len (l : List KV) : (cellsV l).length = l.length * 2 := by
 induction l with
 | nil => rfl
 | cons x l ih =>
  show (encV x ++ cellsV l).length = _
  rw [List.length_append, ih, List.length_cons]
  show 2 + _ = _
  omega
theorem cellsV_snoc (l : List KV) (x : KV) : cellsV (l ++ [x]) = cellsV l ++ encV x := by unfold cellsV; simp
theorem cellsV_at (l : List KV) (k : Nat) (h : k < l.length) : (cellsV l)[k * 2]? = some (.string (ba (l[k]'h).1)) ∧ (cellsV l)[k * 2 + 1]? = some (.string (ba (l[k]'h).2)) := by
 induction l generalizing k with
 | nil => cases h
 | cons x l ih =>
  have e : cellsV (x :: l) = .string (ba x.1) :: .string (ba x.2) :: cellsV l := rfl
  rw [e]
  cases k with
  | zero => exact ⟨rfl, rfl⟩
  | succ k =>
   have := ih k (Nat.lt_of_succ_lt_succ h)
   rw [show (k + 1) * 2 = k * 2 + 1 + 1 by omega, show k * 2 + 1 + 1 + 1 = k * 2 + 1 + 1 + 1 by rfl]
   refine ⟨?_, ?_⟩
   ·rw [List.getElem?_cons_succ, List.getElem?_cons_succ]; exact this.1
   ·rw [List.getElem?_cons_succ, List.getElem?_cons_succ]; exact this.2
theorem infoV0 : (Tryz.prog.info? 41).map (fun i => (i.zero, i.size, i.bytes)) = some (some (.agg #[.string ByteArray.empty, .string ByteArray.empty]), 2, 32) := by kernel_rfl
theorem infoV : ∃ i, Tryz.prog.info? 41 = some i ∧ i.zero = some (.agg #[.string ByteArray.empty, .string ByteArray.empty]) ∧ i.size = 2 ∧ i.bytes = 32 := by
 have h := infoV0
 cases hi : Tryz.prog.info? 41 with
 | none => rw [hi] at h; cases h
 | some i =>
  rw [hi] at h
  simp only [Option.map_some, Option.some.injEq, Prod.mk.injEq] at h
  exact ⟨i, rfl, h.1, h.2.1, h.2.2⟩
theorem vr_of_owns {w : World} {base n : Nat} {e : TypeId} {v : Value} {l : List KV} (h : w.ownsRow base e 2 v n (cellsV l)) : VR w v l ∧ l.length = n := by
 have hn : l.length = n := by have := h.1; rw [cellsV_len] at this; omega
 have hlt := h.lt
 have hcells := @World.ownsRow.cells _ _ _ _ _ _ _ h
 refine ⟨?_, hn⟩
 rcases h.2 with ⟨hv, h0⟩ | ⟨g, cap, cur, hv, h1, h2, h3, h4, h5⟩
 ·obtain rfl : l = [] := List.length_eq_zero_iff.1 (by omega)
  rw [hv]
  exact vr_nil w none 0 (Nat.zero_le _) fun _ => rfl
 ·refine ⟨some ⟨g, 0, none⟩, cap, by rw [hv, hn], by omega, h4, .inr ⟨g, 0, rfl, (hlt g (by rw [hv]; rfl)).2, fun k hk => ?_⟩⟩
  obtain ⟨c1, c2⟩ := cellsV_at l k hk
  have f := hcells (g := g) (by rw [hv]; rfl)
  refine ⟨?_, ?_⟩
  ·have := f _ _ c1; rw [add_plain] at this; exact this
  ·have := f _ _ c2; rw [add_plain] at this; rw [Nat.zero_add] at this ⊢; exact this
theorem ownV_literal (w : World) (base : Nat) (hb : base ≤ w.heap.size) : (w.alloc (.cells #[] 41)).ownsRow base 41 2 (.slice (some ⟨w.heap.size, 0, none⟩) 0 0) 0 (cellsV []) :=
 ⟨rfl, .inr ⟨w.heap.size, 0, #[], rfl, hb, Array.getElem?_push_size (xs := w.heap), Nat.le_refl _, Nat.zero_le _, rfl, rfl⟩⟩
section
variable {H : Type} {enc : TypeId × Value → H} {W : World} {base : Nat} {spare : Nat → Bool} {held : Bool}
theorem twoV {α : Type} : ∀ {cs : List α}, cs.length = 2 → ∃ a b, cs = [a, b]
 | [a, b], _ => ⟨a, b, rfl⟩
theorem listV {P : Nat → KV → Prop} : ∀ (n : Nat), (∀ i, i < n → ∃ d, P i d) → ∃ ds : List KV, ds.length = n ∧ ∀ (i : Nat) (h : i < ds.length), P i (ds[i]'h)
 | 0, _ => ⟨[], rfl, fun i h => absurd h (Nat.not_lt_zero _)⟩
 | n + 1, h => by
  obtain ⟨ds, hl, hp⟩ := listV n fun i hi => h i (by omega)
  obtain ⟨d, hd⟩ := h n (by omega)
  refine ⟨ds ++ [d], by rw [List.length_append, hl]; rfl, fun i hi => ?_⟩
  by_cases hin : i < ds.length
  ·rw [List.getElem_append_left hin]; exact hp i hin
  ·have : i = n := by rw [List.length_append] at hi; have : i < ds.length + 1 := hi; omega
   subst this
   rw [List.getElem_append_right (by omega)]
   simp only [hl, Nat.sub_self, List.getElem_cons_zero]
   exact hd
theorem cellV_lt {W : World} {p : Addr} {v : Value} (h : W.cell? p = some v) : p.block < W.heap.size := by
 rcases Nat.lt_or_ge p.block W.heap.size with h1 | h1
 ·exact h1
 ·have : W.heap[p.block]? = none := Array.getElem?_eq_none h1
  simp [World.cell?, this] at h
theorem var_of_trod {fuel : Nat} {cs : List Value} {x : DataW H × List MemPlace} (h : DataW.trod enc Tryz.prog W base spare held fuel 41 cs = some x) :
  ∃ p : KV, cs = [.string (ba p.1), .string (ba p.2)] ∧ p.1.length ≤ maxLen ∧ p.2.length ≤ maxLen := by
 obtain ⟨xs, n, hn, _, hlen, hxl0, hfld⟩ := DataW.trod_struct Tryz.underlying41 h
 have hlen2 : cs.length = 2 := hlen.trans (by kernel_rfl)
 obtain ⟨c0, c1, rfl⟩ := twoV hlen2
 have hxl : xs.length = 2 := hxl0
 obtain ⟨y0, y1, rfl⟩ := twoV hxl
 have o1 : Tryz.prog.cellsOf 9 = 1 := by kernel_rfl
 have f0 : DataW.trod enc Tryz.prog W base spare held n 9 [c0] = some y0 := by have := hfld 0 _ rfl; simpa [o1] using this
 have f1 : DataW.trod enc Tryz.prog W base spare held n 9 [c1] = some y1 := by have := hfld 1 _ rfl; simpa [o1] using this
 obtain ⟨s, h0, _, hs⟩ := DataW.trod_string Tryz.underlying9 f0
 obtain ⟨t, h1, _, ht⟩ := DataW.trod_string Tryz.underlying9 f1
 injection h0 with h0
 injection h1 with h1
 subst h0; subst h1
 exact ⟨(s.data.toList, t.data.toList), by rw [ba_of, ba_of], hs, ht⟩
theorem vr_of_trod {fuel : Nat} {c : Value} {x : DataW H × List MemPlace} (f3 : DataW.trod enc Tryz.prog W base spare held fuel 26 [c] = some x) : ∃ l, VR W c l ∧ KVok l := by
 rcases DataW.trod_slice Tryz.underlying26 f3 with ⟨hcs, _⟩ | ⟨a, len, cap, elems, rest, n', hn', hcs, _, hb, hl, hm, hel, hget, _⟩
 ·injection hcs with hcs
  subst hcs
  exact ⟨[], vr_nil W none 0 (Nat.zero_le _) fun _ => rfl, fun p hp => by cases hp⟩
 ·injection hcs with hcs
  subst hcs
  have h2 : Tryz.prog.cellsOf 41 = 2 := by kernel_rfl
  have hsp0 : 0 < len → a.spot = none := by
   intro h0
   have hg := hget 0 h0
   rw [List.getElem?_eq_getElem (by omega), h2] at hg
   cases hc : W.cells? base (a.add (0 * 2)) 2 with
   | none => rw [hc] at hg; cases hg
   | some cs' =>
    obtain ⟨_, hl2, hat⟩ := World.cells?_some hc
    have a0 := hat 0 (by omega)
    rw [List.getElem?_eq_getElem (by omega)] at a0
    have := World.cell?_spot a0
    simpa [Addr.add] using this
  have key : ∀ i, i < len → ∃ p : KV, ∃ b o, a = ⟨b, o, none⟩ ∧ b < W.heap.size ∧ W.cell? ⟨b, o + i * 2, none⟩ = some (.string (ba p.1)) ∧ W.cell? ⟨b, o + i * 2 + 1, none⟩ = some (.string (ba p.2)) ∧ p.1.length ≤ maxLen ∧ p.2.length ≤ maxLen := by
   intro i hi
   have hg := hget i hi
   rw [List.getElem?_eq_getElem (by omega)] at hg
   rw [h2] at hg
   cases hc : W.cells? base (a.add (i * 2)) 2 with
   | none => rw [hc] at hg; cases hg
   | some cs' =>
    rw [hc] at hg
    obtain ⟨p, rfl, hp1, hp2⟩ := var_of_trod hg
    obtain ⟨_, _, hat⟩ := World.cells?_some hc
    obtain ⟨b, o, spot⟩ := a
    have a0 := hat 0 (by omega)
    have a1 := hat 1 (by omega)
    have hspot : spot = none := hsp0 (by omega)
    subst hspot
    rw [add_plain, add_plain] at a0 a1
    refine ⟨p, b, o, rfl, cellV_lt (p := ⟨b, o + i * 2 + 0, none⟩) (v := .string (ba p.1)) (by rw [a0]; rfl), a0, a1, hp1, hp2⟩
  obtain ⟨ds, hdl, hdp⟩ := listV len key
  refine ⟨ds, ⟨some a, cap, by rw [hdl], by rw [hdl]; exact hl, hm, ?_⟩, fun p hp => ?_⟩
  ·by_cases h0 : ds = []
   ·exact .inl ⟨h0, fun h => by cases h⟩
   ·have hpos := List.length_pos_iff.2 h0
    obtain ⟨b, o, rfl, hblt, _⟩ := hdp 0 hpos
    refine .inr ⟨b, o, rfl, hblt, fun j hj => ?_⟩
    obtain ⟨b', o', e, _, e1, e2, _⟩ := hdp j hj
    injection e with e3 e4
    subst e3; subst e4
    exact ⟨e1, e2⟩
  ·obtain ⟨j, hj, rfl⟩ := List.getElem_of_mem hp
   obtain ⟨b', o', e, _, e1, e2, e3, e4⟩ := hdp j hj
   exact ⟨e3, e4⟩
theorem open_vars {b0 : Nat} {r : Reach} {v : Value} {d : DataW H} {p : List MemPlace}
  (hv : Value.okWide Tryz.prog W r b0 26 v) (h : DataW.Trod enc Tryz.prog W base spare held 26 v d p) : ∃ l, VR W v l ∧ KVok l := by
 obtain ⟨a, len, cap, rfl⟩ := okWide_slice Tryz.underlying26 hv
 obtain ⟨fuel, hf⟩ := h
 simp only [Value.cells] at hf
 exact vr_of_trod hf
end
end
end Go.Proofs.YtkcilmmaggmmoaaGreatDoor
