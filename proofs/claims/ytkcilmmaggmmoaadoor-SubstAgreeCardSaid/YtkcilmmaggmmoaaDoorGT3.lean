/- NamMath, TmpMath -/
import Derived.Test.YtkcilmmaggmmoaaDoorGT2
import Derived.Test.YtkcilmmaggmmoaaDoorRows
set_option linter.unusedVariables false
set_option linter.unusedSimpArgs false
set_option maxRecDepth 100000
set_option maxHeartbeats 16000000
namespace Go.Proofs.YtkcilmmaggmmoaaDoor
namespace Nw
end Nw
end Go.Proofs.YtkcilmmaggmmoaaDoor
namespace Go.Proofs.YtkcilmmaggmmoaaDoor
namespace Nw
def low (c : UInt8) : Bool := decide (97 ≤ c.toNat) && decide (c.toNat ≤ 122)
def upp (c : UInt8) : Bool := decide (65 ≤ c.toNat) && decide (c.toNat ≤ 90)
def dig (c : UInt8) : Bool := decide (48 ≤ c.toNat) && decide (c.toNat ≤ 57)
def isC (n : Nat) (c : UInt8) : Bool := decide (c.toNat = n)
def v1 (c : UInt8) : Bool := low c || upp c || isC 95 c
def v2 (c : UInt8) : Bool := v1 c || dig c
def kind (c : UInt8) : Nat :=
 if 97 ≤ c.toNat ∧ c.toNat ≤ 122 then 1 else if 65 ≤ c.toNat ∧ c.toNat ≤ 90 then 2 else if 48 ≤ c.toNat ∧ c.toNat ≤ 57 then 3
 else if c.toNat = 95 then 4 else if c.toNat = 45 then 5 else if c.toNat = 46 then 6 else 0
def okAt (a b : UInt8 → Bool) (j : Nat) (c : UInt8) : Bool := if j = 0 then a c else b c
def good (a b : UInt8 → Bool) (l : List UInt8) (k : Nat) : Prop := ∀ j, j < k → okAt a b j (l.getD j 0) = true
instance (a b : UInt8 → Bool) (l : List UInt8) (k : Nat) : Decidable (good a b l k) := by unfold good; infer_instance
def nm (a b : UInt8 → Bool) (l : List UInt8) : Bool := decide (0 < l.length ∧ l.length ≤ 24 ∧ good a b l l.length)
theorem good_zero (a b) (l : List UInt8) : good a b l 0 := fun _ hj => absurd hj (Nat.not_lt_zero _)
theorem good_succ {a b} {l : List UInt8} {k : Nat} (h : good a b l k) (h1 : okAt a b k (l.getD k 0) = true) : good a b l (k + 1) := fun j hj => by
 rcases Nat.lt_succ_iff_lt_or_eq.1 hj with h2 | rfl
 ·exact h j h2
 ·exact h1
theorem nm_yes {a b} {l : List UInt8} (h0 : 0 < l.length) (h1 : l.length ≤ 24) (h : good a b l l.length) : nm a b l = true := decide_eq_true ⟨h0, h1, h⟩
theorem nm_not {a b} {l : List UInt8} {k : Nat} (hk : k < l.length) (h : okAt a b k (l.getD k 0) = false) : nm a b l = false :=
 decide_eq_false fun ⟨_, _, hg⟩ => by rw [hg k hk] at h; cases h
theorem nm_nil {a b} {l : List UInt8} (h : l.length = 0) : nm a b l = false := decide_eq_false fun ⟨h0, _, _⟩ => by omega
theorem nm_long {a b} {l : List UInt8} (h : 24 < l.length) : nm a b l = false := decide_eq_false fun ⟨_, h0, _⟩ => by omega
theorem all_256 (p : UInt8 → Bool) (h : (List.range 256).all (fun n => p (UInt8.ofNat n)) = true) (c : UInt8) : p c = true := by
 have := List.all_eq_true.1 h c.toNat (List.mem_range.2 c.toNat_lt)
 simpa using this
theorem k_v1 (c : UInt8) : v1 c = (decide (kind c ≠ 0) && decide (kind c ≤ 4) && decide (kind c ≠ 3)) := by
 have := all_256 (fun c => v1 c == (decide (kind c ≠ 0) && decide (kind c ≤ 4) && decide (kind c ≠ 3))) (by decide +kernel) c
 simpa using this
theorem k_v2 (c : UInt8) : v2 c = (decide (kind c ≠ 0) && decide (kind c ≤ 4)) := by
 have := all_256 (fun c => v2 c == (decide (kind c ≠ 0) && decide (kind c ≤ 4))) (by decide +kernel) c
 simpa using this
end Nw
end Go.Proofs.YtkcilmmaggmmoaaDoor
namespace Go.Proofs.YtkcilmmaggmmoaaDoor
namespace T13
open Nw
inductive Pt where
 | mk (name text : L8) (op : Int) (sub : List Pt)
def Pt.name : Pt → L8 | .mk n _ _ _ => n
def Pt.text : Pt → L8 | .mk _ t _ _ => t
def Pt.op : Pt → Int | .mk _ _ o _ => o
def isN (k : L8) : Bool := nm v1 v2 k
def lenN : L8 → Nat
 | [] => 0
 | c :: t => if v2 c then lenN t + 1 else 0
def opN (l : L8) : Int × Nat :=
 if l.getD 0 0 = 58 ∧ l.getD 1 0 = 45 then (2, 2) else if l.getD 0 0 = 58 ∧ l.getD 1 0 = 63 then (4, 2) else if l.getD 0 0 = 58 ∧ l.getD 1 0 = 43 then (6, 2)
 else if l.getD 0 0 = 45 then (3, 1) else if l.getD 0 0 = 63 then (5, 1) else if l.getD 0 0 = 43 then (7, 1) else (1, 0)
def litP (t : L8) : Pt := .mk [] t 0 []
def fl (done : List Pt) (lit : L8) : List Pt := if lit = [] then done else done ++ [litP lit]
inductive PR where
 | err (e : Int)
 | ok (ps : List Pt) (rest : L8)
inductive St where
 | stop
 | lit (b : UInt8) (r : L8)
 | bad (e : Int)
 | plain (n r : L8)
 | brc (n : L8) (o : Int) (v : L8)
def stp (d : Nat) (c : UInt8) (t : L8) : St :=
 if c = 125 ∧ 1 < d then .stop
 else if c ≠ 36 then .lit c t
 else if t.getD 0 0 = 36 then .lit 36 (t.drop 1)
 else if 8 < d then .bad 9
 else if t.getD 0 0 = 123 then
  (if isN ((t.drop 1).take (lenN (t.drop 1))) = false then .bad 3
  else if (opN ((t.drop 1).drop (lenN (t.drop 1)))).1 = 1 then
   (if ((t.drop 1).drop (lenN (t.drop 1))).getD 0 0 = 125 then .plain ((t.drop 1).take (lenN (t.drop 1))) (((t.drop 1).drop (lenN (t.drop 1))).drop 1) else .bad 3)
  else .brc ((t.drop 1).take (lenN (t.drop 1))) (opN ((t.drop 1).drop (lenN (t.drop 1)))).1 (((t.drop 1).drop (lenN (t.drop 1))).drop (opN ((t.drop 1).drop (lenN (t.drop 1)))).2))
 else if isN (t.take (lenN t)) = false then .bad 3
 else .plain (t.take (lenN t)) (t.drop (lenN t))
def prs : Nat → Nat → List Pt → L8 → L8 → PR
 | 0, _, _, _, _ => .err 0
 | _ + 1, _, done, lit, [] => .ok (fl done lit) []
 | f + 1, d, done, lit, c :: t => match stp d c t with
  | .stop => .ok (fl done lit) (c :: t)
  | .lit b r => prs f d done (lit ++ [b]) r
  | .bad e => .err e
  | .plain n r => prs f d (fl done lit ++ [.mk n [] 1 []]) [] r
  | .brc n o v => match prs f (d + 1) [] [] v with
   | .err e => .err e
   | .ok sub rest => if rest.getD 0 0 = 125 then prs f d (fl done lit ++ [.mk n [] o sub]) [] (rest.drop 1) else .err 3
def prsA (d : Nat) (done : List Pt) (lit l : L8) : PR := prs (l.length + 1) d done lit l
def prsT (s : L8) : PR := prsA 1 [] [] s
def markL (o : Int) : L8 := if o = 2 then [58, 45] else if o = 3 then [45] else if o = 4 then [58, 63] else if o = 5 then [63] else if o = 6 then [58, 43] else if o = 7 then [43] else []
def escD : L8 → L8
 | [] => []
 | c :: t => if c = 36 then 36 :: 36 :: escD t else c :: escD t
mutual
def txtP : Pt → L8
 | .mk n t o s => if o = 0 then escD t else 36 :: 123 :: (n ++ (markL o ++ ((if 1 < o then txtL s else []) ++ [125])))
def txtL : List Pt → L8
 | [] => []
 | p :: ps => txtP p ++ txtL ps
end
mutual
def namP : Pt → List L8
 | .mk n _ o s => (if o ≠ 0 then [n] else []) ++ namL s
def namL : List Pt → List L8
 | [] => []
 | p :: ps => namP p ++ namL ps
end
mutual
def depP : Pt → Nat
 | .mk _ _ o s => if o = 0 then 0 else 1 + depL s
def depL : List Pt → Nat
 | [] => 0
 | p :: ps => max (depP p) (depL ps)
end
mutual
def cntP : Pt → Nat
 | .mk _ _ _ s => 1 + cntL s
def cntL : List Pt → Nat
 | [] => 0
 | p :: ps => cntP p + cntL ps
end
def absb : List Pt → L8 → List Pt → List Pt × L8
 | done, lit, [] => (done, lit)
 | done, lit, p :: ps => if p.op = 0 then absb done (lit ++ p.text) ps else absb (fl done lit ++ [p]) [] ps
def calm (ps : List Pt) : Prop := fl (absb [] [] ps).1 (absb [] [] ps).2 = ps
mutual
def WfP : Nat → Pt → Prop
 | d, .mk n t o s => (o = 0 ∧ n = [] ∧ t ≠ [] ∧ s = [] ∧ (1 < d → (125 : UInt8) ∉ t)) ∨ (o = 1 ∧ isN n = true ∧ t = [] ∧ s = [] ∧ d ≤ 8) ∨ (2 ≤ o ∧ o ≤ 7 ∧ isN n = true ∧ t = [] ∧ d ≤ 8 ∧ WfL (d + 1) s ∧ calm s)
def WfL : Nat → List Pt → Prop
 | _, [] => True
 | d, p :: ps => WfP d p ∧ WfL d ps
end
end T13
end Go.Proofs.YtkcilmmaggmmoaaDoor
