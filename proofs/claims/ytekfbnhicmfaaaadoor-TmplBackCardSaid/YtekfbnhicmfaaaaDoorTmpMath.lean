/- Templates: their parts as trees; what the document says of them, as functions: parsing, writing, names, depth. -/
import Derived.Test.YtekfbnhicmfaaaaDoorNamListMath
import Derived.Test.YtekfbnhicmfaaaaDoorNamMath
namespace Go.Proofs.YtekfbnhicmfaaaaDoor
namespace T13
open Nw
set_option linter.unusedVariables false
/-- A part: its name, its text, its operator, the parts behind the operator. -/
inductive Pt where
  | mk (name text : L8) (op : Int) (sub : List Pt)
def Pt.name : Pt → L8 | .mk n _ _ _ => n
def Pt.text : Pt → L8 | .mk _ t _ _ => t
def Pt.op : Pt → Int | .mk _ _ o _ => o
def Pt.sub : Pt → List Pt | .mk _ _ _ s => s
def isN (k : L8) : Bool := nm v1 v2 k
/-- How many bytes of a name stand ahead. -/
def lenN : L8 → Nat
  | [] => 0
  | c :: t => if v2 c then lenN t + 1 else 0
/-- The operator that stands ahead: its number, its length. -/
def opN (l : L8) : Int × Nat :=
  if l.getD 0 0 = 58 ∧ l.getD 1 0 = 45 then (2, 2) else if l.getD 0 0 = 58 ∧ l.getD 1 0 = 63 then (4, 2) else if l.getD 0 0 = 58 ∧ l.getD 1 0 = 43 then (6, 2)
  else if l.getD 0 0 = 45 then (3, 1) else if l.getD 0 0 = 63 then (5, 1) else if l.getD 0 0 = 43 then (7, 1) else (1, 0)
def litP (t : L8) : Pt := .mk [] t 0 []
/-- What is done, and the literal text behind it. -/
def fl (done : List Pt) (lit : L8) : List Pt := if lit = [] then done else done ++ [litP lit]
/-- What parsing gives: an error, or parts and what is left. -/
inductive PR where
  | err (e : Int)
  | ok (ps : List Pt) (rest : L8)
/-- What a byte and what stands behind it begin. -/
inductive St where
  | stop
  | lit (b : UInt8) (r : L8)
  | bad (e : Int)
  | plain (n r : L8)
  | brc (n : L8) (o : Int) (v : L8)
def stp (d : Nat) (c : UInt8) (t : L8) : St :=
  if c = 125 ∧ 1 < d then .stop
  else if c ≠ 36 then .lit c t
  else if t.getD 0 0 = 36 then .lit 36 (t.drop 1)
  else if 8 < d then .bad 9
  else if t.getD 0 0 = 123 then
    (if isN ((t.drop 1).take (lenN (t.drop 1))) = false then .bad 3
    else if (opN ((t.drop 1).drop (lenN (t.drop 1)))).1 = 1 then
      (if ((t.drop 1).drop (lenN (t.drop 1))).getD 0 0 = 125 then .plain ((t.drop 1).take (lenN (t.drop 1))) (((t.drop 1).drop (lenN (t.drop 1))).drop 1) else .bad 3)
    else .brc ((t.drop 1).take (lenN (t.drop 1))) (opN ((t.drop 1).drop (lenN (t.drop 1)))).1 (((t.drop 1).drop (lenN (t.drop 1))).drop (opN ((t.drop 1).drop (lenN (t.drop 1)))).2))
  else if isN (t.take (lenN t)) = false then .bad 3
  else .plain (t.take (lenN t)) (t.drop (lenN t))
/-- From a place on, within d - 1 references. -/
def prs : Nat → Nat → List Pt → L8 → L8 → PR
  | 0, _, _, _, _ => .err 0
  | _ + 1, _, done, lit, [] => .ok (fl done lit) []
  | f + 1, d, done, lit, c :: t => match stp d c t with
    | .stop => .ok (fl done lit) (c :: t)
    | .lit b r => prs f d done (lit ++ [b]) r
    | .bad e => .err e
    | .plain n r => prs f d (fl done lit ++ [.mk n [] 1 []]) [] r
    | .brc n o v => match prs f (d + 1) [] [] v with
      | .err e => .err e
      | .ok sub rest => if rest.getD 0 0 = 125 then prs f d (fl done lit ++ [.mk n [] o sub]) [] (rest.drop 1) else .err 3
def prsA (d : Nat) (done : List Pt) (lit l : L8) : PR := prs (l.length + 1) d done lit l
/-- A whole text. -/
def prsT (s : L8) : PR := prsA 1 [] [] s
def markL (o : Int) : L8 := if o = 2 then [58, 45] else if o = 3 then [45] else if o = 4 then [58, 63] else if o = 5 then [63] else if o = 6 then [58, 43] else if o = 7 then [43] else []
def escD : L8 → L8
  | [] => []
  | c :: t => if c = 36 then 36 :: 36 :: escD t else c :: escD t
mutual
/-- As a text. -/
def txtP : Pt → L8
  | .mk n t o s => if o = 0 then escD t else 36 :: 123 :: (n ++ (markL o ++ ((if 1 < o then txtL s else []) ++ [125])))
def txtL : List Pt → L8
  | [] => []
  | p :: ps => txtP p ++ txtL ps
end
mutual
/-- The names of all variables, in the order in which they stand. -/
def namP : Pt → List L8
  | .mk n _ o s => (if o ≠ 0 then [n] else []) ++ namL s
def namL : List Pt → List L8
  | [] => []
  | p :: ps => namP p ++ namL ps
end
mutual
/-- How deep references stand. -/
def depP : Pt → Nat
  | .mk _ _ o s => if o = 0 then 0 else 1 + depL s
def depL : List Pt → Nat
  | [] => 0
  | p :: ps => max (depP p) (depL ps)
end
mutual
/-- How many parts there are in all. -/
def cntP : Pt → Nat
  | .mk _ _ _ s => 1 + cntL s
def cntL : List Pt → Nat
  | [] => 0
  | p :: ps => cntP p + cntL ps
end
mutual
def sameP : Pt → Pt → Bool
  | .mk n t o s, .mk n' t' o' s' => decide (n = n') && decide (t = t') && decide (o = o') && sameL s s'
def sameL : List Pt → List Pt → Bool
  | [], [] => true
  | p :: ps, q :: qs => sameP p q && sameL ps qs
  | [], _ :: _ => false
  | _ :: _, [] => false
end
/-- What is done and the literal text behind it, when parts have come. -/
def absb : List Pt → L8 → List Pt → List Pt × L8
  | done, lit, [] => (done, lit)
  | done, lit, p :: ps => if p.op = 0 then absb done (lit ++ p.text) ps else absb (fl done lit ++ [p]) [] ps
/-- No two literal parts stand side by side. -/
def calm (ps : List Pt) : Prop := fl (absb [] [] ps).1 (absb [] [] ps).2 = ps
mutual
/-- Within d - 1 references: what parsing can give. -/
def WfP : Nat → Pt → Prop
  | d, .mk n t o s => (o = 0 ∧ n = [] ∧ t ≠ [] ∧ s = [] ∧ (1 < d → (125 : UInt8) ∉ t)) ∨ (o = 1 ∧ isN n = true ∧ t = [] ∧ s = [] ∧ d ≤ 8) ∨ (2 ≤ o ∧ o ≤ 7 ∧ isN n = true ∧ t = [] ∧ d ≤ 8 ∧ WfL (d + 1) s ∧ calm s)
def WfL : Nat → List Pt → Prop
  | _, [] => True
  | d, p :: ps => WfP d p ∧ WfL d ps
end
end T13
end Go.Proofs.YtekfbnhicmfaaaaDoor
