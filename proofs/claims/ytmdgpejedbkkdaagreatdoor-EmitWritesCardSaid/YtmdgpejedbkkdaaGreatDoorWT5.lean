/- FloBack, FloAll, FloPar, LinMath, BloMath, BloFacts, LinSame, BloSmall -/
import Derived.Test.YtmdgpejedbkkdaaGreatDoorWT2
set_option linter.unusedVariables false
set_option linter.unusedSimpArgs false
set_option maxRecDepth 100000
set_option maxHeartbeats 16000000
namespace Go.Proofs.YtmdgpejedbkkdaaGreatDoor
namespace F9
open Nw N8 Q6
theorem blk_cons (c : UInt8) (l : L8) : blk (c :: l) = if c = 32 then blk l + 1 else 0 := rfl
theorem blk_no {c : UInt8} {l : L8} (h : c ≠ 32) : blk (c :: l) = 0 := if_neg h
theorem row_every {t : L8} (h : rowB t = true) : bad3 t = false ∧ (∀ i, i < t.length → okI plainF t i = true) ∧ ∀ i, i < t.length → has marks (t.getD i 0) = false := by
 unfold rowB at h
 rw [Bool.and_eq_true] at h
 obtain ⟨h1, h2⟩ := h
 unfold plainB at h1
 by_cases hb : bad3 t = true
 ·rw [if_pos hb] at h1; cases h1
 ·rw [if_neg hb] at h1
  refine ⟨by simpa using hb, every_iff.1 h1, fun i hi => ?_⟩
  have := every_iff.1 h2 i hi
  unfold okI rowF at this
  simpa using this
theorem row_ne {t : L8} (h : rowB t = true) : t ≠ [] := by
 rintro rfl
 have := (row_every h).1
 revert this; decide
theorem row_first {t : L8} (h : rowB t = true) : t.getD 0 0 ≠ 32 ∧ has firsts (t.getD 0 0) = false := by
 have hp : 0 < t.length := List.length_pos_iff.2 (row_ne h)
 have h1 := (row_every h).2.1 0 hp
 unfold okI at h1
 rw [show bef t 0 = 10 by simp [bef]] at h1
 unfold plainF at h1
 have hf : has firsts (t.getD 0 0) = false := by
  rw [Bool.eq_false_iff]; intro e
  rw [e] at h1
  revert h1; simp [isC]
 refine ⟨fun e => ?_, hf⟩
 rw [e] at h1
 revert h1; simp [isC, has, firsts]
theorem scn_dbl (t r : L8) : scnP (dblL t ++ r) = some (t, (dblL t).length) := by
 unfold scnP scanR
 have e : dblL t ++ r = 34 :: (escL t ++ 34 :: r) := by unfold dblL; simp
 rw [e, if_pos (show (34 :: (escL t ++ 34 :: r)).getD 0 0 = 34 from rfl)]
 unfold atD
 rw [show (34 :: (escL t ++ 34 :: r)).drop (0 + 1) = escL t ++ 34 :: r from rfl, scD_esc]
 unfold dblL
 simp [push]; omega
theorem val_plain {c : UInt8} {t : L8} (h1 : c ≠ 91) (h2 : c ≠ 123) (h3 : isQ c = false) : valP (c :: t) = (sclP (trm ((c :: t).take (pln (c :: t))))).map fun d => (d, pln (c :: t)) := by
 rw [valP, if_neg h1, if_neg h2, h3, if_neg Bool.false_ne_true]
theorem val_quoted {c : UInt8} {t : L8} (h1 : c ≠ 91) (h2 : c ≠ 123) (h3 : isQ c = true) : valP (c :: t) = (scnP (c :: t)).map fun p => (txt p.1, p.2) := by
 rw [valP, if_neg h1, if_neg h2, h3, if_pos rfl]
theorem fine_in {k : Int} {t : L8} {ks : List L8} {ds : List Nd} (h : Fine (.mk k t ks ds)) : (0 ≤ k ∧ k ≤ 3) ∧ (k ≠ 1 → t = []) ∧ (k ≠ 3 → ks = []) ∧ (k < 2 → ds = []) ∧ ∀ d ∈ ds, Fine d := by
 cases h with
 | mk h0 h3 hf hk hd =>
  unfold formB at hf
  simp only [Bool.and_eq_true, Bool.not_eq_true', Bool.and_eq_false_iff, decide_eq_false_iff_not, Classical.not_not] at hf
  obtain ⟨⟨f1, f2⟩, f3⟩ := hf
  refine ⟨⟨h0, h3⟩, fun h => ?_, fun h => ?_, fun h => ?_, hd⟩
  ·rcases f1 with f1 | f1
   ·exact absurd f1 h
   ·exact List.length_eq_zero_iff.1 (by omega)
  ·rcases f2 with f2 | f2
   ·exact absurd f2 h
   ·exact List.length_eq_zero_iff.1 (by omega)
  ·rcases f3 with f3 | f3
   ·exact absurd h f3
   ·exact List.length_eq_zero_iff.1 (by omega)
theorem prs_step {x : L8} {d : Nd} {l : L8} {ks : List L8} {ds : List Nd} {j a m n : Nat} {c : UInt8} {t : L8} (hk : keyP (l.drop (blk l)) = some (x, j)) (hx : x ∉ ks) (ha : blk l + j + blk (l.drop (blk l + j)) = a) (h : valP (l.drop a) = some (d, m)) (hn : a + m + blk (l.drop (a + m)) = n) (hd : l.drop n = c :: t) :
  prsP l ks ds = if c = 125 then some (.mk 3 [] (ks ++ [x]) (ds ++ [d]), n + 1) else if c = 44 then (prsP t (ks ++ [x]) (ds ++ [d])).map (bump (n + 1)) else none := by
 subst ha
 subst hn
 rw [prsP]
 split
 ·rename_i h9; rw [hk] at h9; cases h9
 ·rename_i x9 j9 h9
  rw [hk] at h9
  injection h9 with h9
  injection h9 with h9 h10
  subst h9; subst h10
  rw [if_neg hx, h]
  show (match _h : l.drop _ with | [] => none | c :: t => _) = _
  split
  ·rename_i h9; rw [hd] at h9; cases h9
  ·rename_i c9 t9 h9
   rw [hd] at h9
   injection h9 with h9 h10
   rw [← h9, h10]
end F9
end Go.Proofs.YtmdgpejedbkkdaaGreatDoor
namespace Go.Proofs.YtmdgpejedbkkdaaGreatDoor
namespace F9
open Nw N8 Q6
mutual
theorem left_yes : ∀ (d : Nd) (deep left : Int), Fine d → 1 ≤ deep → deep - 1 + (depT d : Int) ≤ 12 → (cntT d : Int) ≤ left → leftT d deep left = left - (cntT d : Int)
 | .mk k t ks ds, deep, left, hf, h1, hd, hc => by
  have hpos := cntT_pos (.mk k t ks ds)
  rw [cntT] at hc hpos
  rw [depT] at hd
  have hlen := cntL_len ds
  have hk : formB k t ks ds.length = true ∧ (0 ≤ k ∧ k ≤ 3) ∧ (k = 3 → ks.length = ds.length ∧ (sortL ks).length = ks.length) ∧ ∀ d ∈ ds, Fine d := by
   cases hf with
   | mk h0 h3 hf hk hd => exact ⟨hf, ⟨h0, h3⟩, hk, hd⟩
  obtain ⟨f1, f2, f3, f4⟩ := hk
  rw [leftT, if_neg (by omega), f1, if_neg (by decide)]
  have hkb : keysB k ks ds.length (left - 1) = true := by
   unfold keysB
   by_cases k3 : k = 3
   ·obtain ⟨g1, g2⟩ := f3 k3
    rw [decide_eq_true k3, decide_eq_false (by omega : ¬ ks.length ≠ ds.length), decide_eq_false (by omega : ¬ left - 1 < (ds.length : Int)), decide_eq_false (by omega : ¬ (sortL ks).length ≠ ks.length)]; rfl
   ·rw [decide_eq_false k3]; rfl
  rw [hkb, if_neg (by decide), leftL_yes ds (deep + 1) (left - 1) f4 (by omega) (by omega) (by omega), cntT]
  omega
theorem leftL_yes : ∀ (ds : List Nd) (deep left : Int), (∀ d ∈ ds, Fine d) → 1 ≤ deep → deep - 1 + (depL ds : Int) ≤ 12 → (cntL ds : Int) ≤ left → leftL ds deep left = left - (cntL ds : Int)
 | [], deep, left, _, _, _, _ => by rw [leftL, cntL]; omega
 | d :: ds, deep, left, hf, h1, hd, hc => by
  rw [cntL] at hc
  rw [depL] at hd
  have h2 := left_yes d deep left (hf d (List.mem_cons_self ..)) h1 (by omega) (by omega)
  rw [leftL, h2, if_neg (by omega), leftL_yes ds deep _ (fun e he => hf e (List.mem_cons_of_mem _ he)) h1 (by omega) (by omega), cntL]
  omega
end
mutual
theorem left_dep : ∀ (d : Nd) (deep left : Int), 0 ≤ leftT d deep left → deep - 1 + (depT d : Int) ≤ 12
 | .mk k t ks ds, deep, left, h => by
  rw [leftT] at h
  split at h
  ·exact absurd h (by decide)
  ·rename_i h1
   split at h
   ·exact absurd h (by decide)
   ·split at h
    ·exact absurd h (by decide)
    ·rw [depT]
     rcases leftL_dep ds (deep + 1) (left - 1) h with h2 | h2
     ·omega
     ·rw [h2, depL]; omega
theorem leftL_dep : ∀ (ds : List Nd) (deep left : Int), 0 ≤ leftL ds deep left → deep - 1 + (depL ds : Int) ≤ 12 ∨ ds = []
 | [], _, _, _ => .inr rfl
 | d :: ds, deep, left, h => by
  rw [leftL] at h
  split at h
  ·exact absurd h (by decide)
  ·rename_i h1
   have h2 := left_dep d deep left (by omega)
   rw [depL]
   rcases leftL_dep ds deep _ h with h3 | h3
   ·left; omega
   ·subst h3; left; rw [depL]; omega
end
theorem ok_iff {most : Nat} {d : Nd} : okT (most : Int) d = true ↔ Fine d ∧ cntT d ≤ most ∧ depT d ≤ 12 := by
 constructor
 ·intro h
  have h1 := ok_cnt h
  have h2 := left_dep d 1 most (of_decide_eq_true h)
  exact ⟨ok_fine h, by omega, by omega⟩
 ·rintro ⟨h1, h2, h3⟩
  have := left_yes d 1 (most : Int) h1 (by omega) (by omega) (by omega)
  exact decide_eq_true (by rw [this]; omega)
end F9
end Go.Proofs.YtmdgpejedbkkdaaGreatDoor
namespace Go.Proofs.YtmdgpejedbkkdaaGreatDoor
namespace F9
open Nw N8 Q6
def sclS (row : Bool) (l : L8) : Option Nd :=
 if bad3 l then some nul
 else if isQ (l.headD 0) && decide ((scnP l).map (·.2) = some l.length) then (scnP l).map fun p => txt p.1
 else if (if row then rowB l else plainB l) then some (txt l) else none
def parE (P : Option Nd) : Int := match P with | none => 3 | some d => if okT 2000 d then 0 else 9
def parD (P : Option Nd) : Nd := match P with | none => nul | some d => if okT 2000 d then d else nul
theorem par_no {d : Nd} (h : okT 2000 d = false) : 9 = parE (some d) ∧ nul = parD (some d) :=
 ⟨(if_neg (show ¬ okT 2000 d = true by rw [h]; decide)).symm, (if_neg (show ¬ okT 2000 d = true by rw [h]; decide)).symm⟩
theorem par_yes {d : Nd} (h : okT 2000 d = true) : 0 = parE (some d) ∧ d = parD (some d) := ⟨(if_pos h).symm, (if_pos h).symm⟩
end F9
end Go.Proofs.YtmdgpejedbkkdaaGreatDoor
namespace Go.Proofs.YtmdgpejedbkkdaaGreatDoor
namespace Q6
theorem scD_in (n : Nat) : ∀ (l : List UInt8), l.length ≤ n → ∀ v m, scD l = some (v, m) → 1 ≤ m ∧ m ≤ l.length := by
 induction n with
 | zero =>
  intro l hl v m h
  cases l with
  | nil => rw [scD_nil] at h; cases h
  | cons c t => rw [List.length_cons] at hl; omega
 | succ n ih =>
  intro l hl v m h
  cases l with
  | nil => rw [scD_nil] at h; cases h
  | cons c t =>
   by_cases hc : c = 34
   ·subst hc
    rw [scD_end] at h
    cases h
    exact ⟨Nat.le_refl _, by rw [List.length_cons]; omega⟩
   ·obtain ⟨x, k⟩ : ∃ x, den (c :: t) = x := ⟨_, rfl⟩
    obtain ⟨y, j⟩ := x
    have hlen := den_len (c :: t)
    rw [k] at hlen
    by_cases hj : j = 0
    ·rw [scD_bad hc (by rw [k]; exact hj)] at h; cases h
    ·rw [scD_next hc k hj] at h
     cases hr : scD ((c :: t).drop j) with
     | none => rw [hr] at h; cases h
     | some p =>
      rw [hr] at h
      obtain ⟨p1, p2⟩ := p
      have hl2 : ((c :: t).drop j).length ≤ n := by rw [List.length_drop, List.length_cons]; rw [List.length_cons] at hl; omega
      have hi := ih _ hl2 _ _ hr
      rw [List.length_drop] at hi
      cases h
      have hlen' : j ≤ (c :: t).length := hlen
      exact ⟨by show 1 ≤ j + p2; omega, by show j + p2 ≤ _; omega⟩
theorem scS_in : ∀ (l : List UInt8) v m, scS l = some (v, m) → 1 ≤ m ∧ m ≤ l.length
 | [], v, m, h => by rw [scS] at h; cases h
 | [c], v, m, h => by
  rw [scS] at h
  split at h
  ·cases h; exact ⟨Nat.le_refl _, Nat.le_refl _⟩
  ·cases h
 | c :: d :: t, v, m, h => by
  rw [scS] at h
  split at h
  ·split at h
   ·split at h
    ·cases hr : scS t with
     | none => rw [hr] at h; cases h
     | some p =>
      obtain ⟨p1, p2⟩ := p
      rw [hr] at h
      have := scS_in t p1 p2 hr
      cases h
      exact ⟨by show 1 ≤ 2 + p2; omega, by show 2 + p2 ≤ t.length + 1 + 1; omega⟩
    ·cases h; exact ⟨Nat.le_refl _, by show 1 ≤ t.length + 1 + 1; omega⟩
   ·cases hr : scS (d :: t) with
    | none => rw [hr] at h; cases h
    | some p =>
     obtain ⟨p1, p2⟩ := p
     rw [hr] at h
     have := scS_in (d :: t) p1 p2 hr
     cases h
     have h2 : p2 ≤ t.length + 1 := this.2
     exact ⟨by show 1 ≤ 1 + p2; omega, by show 1 + p2 ≤ t.length + 1 + 1; omega⟩
  ·cases h
theorem scanE_cases (l : List UInt8) (k : Nat) : scanE l (k : Int) ≠ 0 ∨ ∃ (v : List UInt8) (m : Nat), scanE l (k : Int) = 0 ∧ scanV l (k : Int) = v ∧ scanN l (k : Int) = (m : Int) ∧ k < m ∧ m ≤ l.length := by
 by_cases hq : isQuote l (k : Int) = true
 ·have hk : k < l.length := by
   unfold isQuote at hq
   rw [Bool.and_eq_true, Bool.and_eq_true] at hq
   have := of_decide_eq_true hq.1.2
   omega
  have e1 : scanE l (k : Int) = outE (scanR l k) := by unfold scanE; rw [if_pos hq, Int.toNat_natCast]
  have e2 : scanV l (k : Int) = outV (scanR l k) := by unfold scanV; rw [if_pos hq, Int.toNat_natCast]
  have e3 : scanN l (k : Int) = outN (scanR l k) := by unfold scanN; rw [if_pos hq, Int.toNat_natCast]
  rw [e1, e2, e3]
  cases hr : scanR l k with
  | none => left; show (3 : Int) ≠ 0; decide
  | some p =>
   obtain ⟨v, m⟩ := p
   right
   refine ⟨v, m, rfl, rfl, rfl, ?_⟩
   unfold scanR at hr
   split at hr
   ·unfold atD at hr
    cases hs : scD (l.drop (k + 1)) with
    | none => rw [hs] at hr; cases hr
    | some p =>
     obtain ⟨p1, p2⟩ := p
     rw [hs] at hr
     have hi := scD_in _ _ (Nat.le_refl _) _ _ hs
     rw [List.length_drop] at hi
     cases hr
     exact ⟨by show k < k + 1 + p2; omega, by show k + 1 + p2 ≤ _; omega⟩
   ·unfold atS at hr
    cases hs : scS (l.drop (k + 1)) with
    | none => rw [hs] at hr; cases hr
    | some p =>
     obtain ⟨p1, p2⟩ := p
     rw [hs] at hr
     have hi := scS_in _ _ _ hs
     rw [List.length_drop] at hi
     cases hr
     exact ⟨by show k < k + 1 + p2; omega, by show k + 1 + p2 ≤ _; omega⟩
 ·left
  unfold scanE
  rw [if_neg hq]; decide
def prevB (l : List UInt8) (k : Nat) : UInt8 := if k = 0 then 32 else l.getD (k - 1) 0
def opens (b : UInt8) : Bool := decide (b = 32) || decide (b = 91) || decide (b = 123) || decide (b = 44)
def begK (l : List UInt8) (k : Nat) : Nat :=
 if l.getD k 0 = 35 ∧ prevB l k = 32 then 2 else if (l.getD k 0 = 34 ∨ l.getD k 0 = 39) ∧ opens (prevB l k) = true then 1 else 0
def endAt (l : List UInt8) (k : Nat) : Option Nat :=
 if h : k < l.length then
  if begK l k = 2 then some k
  else if begK l k = 1 then
   if scanE l (k : Int) = 0 then (if h2 : k < (scanN l (k : Int)).toNat then endAt l (scanN l (k : Int)).toNat else none) else none
  else if good (l.getD k 0) = true then endAt l (k + 1) else none
 else some l.length
 termination_by l.length - k
theorem endAt_out {l : List UInt8} {k : Nat} (h : l.length ≤ k) : endAt l k = some l.length := by rw [endAt, dif_neg (by omega)]
theorem endAt_mark {l : List UInt8} {k : Nat} (h : k < l.length) (hb : begK l k = 2) : endAt l k = some k := by rw [endAt, dif_pos h, if_pos hb]
theorem endAt_bad {l : List UInt8} {k : Nat} (h : k < l.length) (hb : begK l k = 1) (hs : scanE l (k : Int) ≠ 0) : endAt l k = none := by
 rw [endAt, dif_pos h, if_neg (by rw [hb]; decide), if_pos hb, if_neg hs]
theorem endAt_quote {l : List UInt8} {k m : Nat} (h : k < l.length) (hb : begK l k = 1) (hs : scanE l (k : Int) = 0) (hm : scanN l (k : Int) = (m : Int)) (hkm : k < m) : endAt l k = endAt l m := by
 rw [endAt, dif_pos h, if_neg (by rw [hb]; decide), if_pos hb, if_pos hs, hm, Int.toNat_natCast, dif_pos hkm]
theorem endAt_raw {l : List UInt8} {k : Nat} (h : k < l.length) (hb : begK l k = 0) (hg : good (l.getD k 0) = false) : endAt l k = none := by
 rw [endAt, dif_pos h, if_neg (by rw [hb]; decide), if_neg (by rw [hb]; decide), if_neg (by rw [hg]; decide)]
theorem endAt_next {l : List UInt8} {k : Nat} (h : k < l.length) (hb : begK l k = 0) (hg : good (l.getD k 0) = true) : endAt l k = endAt l (k + 1) := by
 rw [endAt, dif_pos h, if_neg (by rw [hb]; decide), if_neg (by rw [hb]; decide), if_pos hg]
theorem begK_cases (l : List UInt8) (k : Nat) : begK l k = 0 ∨ begK l k = 1 ∨ begK l k = 2 := by
 unfold begK
 split
 ·exact .inr (.inr rfl)
 ·split
  ·exact .inr (.inl rfl)
  ·exact .inl rfl
theorem endAt_le (n : Nat) : ∀ (l : List UInt8) (k e : Nat), l.length - k ≤ n → endAt l k = some e → e ≤ l.length := by
 induction n with
 | zero =>
  intro l k e hk h
  rw [endAt_out (by omega)] at h
  cases h; exact Nat.le_refl _
 | succ n ih =>
  intro l k e hk h
  by_cases hlt : k < l.length
  ·rcases begK_cases l k with hb | hb | hb
   ·rcases Bool.eq_false_or_eq_true (good (l.getD k 0)) with hg | hg
    ·rw [endAt_next hlt hb hg] at h
     exact ih l (k + 1) e (by omega) h
    ·rw [endAt_raw hlt hb hg] at h; cases h
   ·rcases scanE_cases l k with hs | ⟨v, m, hs, -, hm, hkm, hml⟩
    ·rw [endAt_bad hlt hb hs] at h; cases h
    ·rw [endAt_quote hlt hb hs hm hkm] at h
     exact ih l m e (by omega) h
   ·rw [endAt_mark hlt hb] at h
    cases h; omega
  ·rw [endAt_out (by omega)] at h
   cases h; exact Nat.le_refl _
def trimN : List UInt8 → Nat → Nat
 | l, 0 => 0
 | l, n + 1 => if l.getD n 0 = 32 then trimN l n else n + 1
theorem trimN_le (l : List UInt8) (n : Nat) : trimN l n ≤ n := by
 induction n with
 | zero => exact Nat.le_refl _
 | succ n ih =>
  unfold trimN
  split
  ·omega
  ·exact Nat.le_refl _
def sayL (l : List UInt8) : Option (List UInt8) := (endAt l 0).map fun e => l.take (trimN l e)
structure Ln where
 no : Nat
 ind : Nat
 text : List UInt8
def rowN (l : List UInt8) : Nat := (l.takeWhile fun c => decide (c ≠ 10)).length
def indN (l : List UInt8) : Nat := (l.takeWhile fun c => decide (c = 32)).length
def marker (t : List UInt8) : Bool := decide (t = [45, 45, 45]) || decide (t = [46, 46, 46])
def oneL (row : List UInt8) : Option (Nat × List UInt8) :=
 match sayL (row.drop (indN row)) with
 | none => none
 | some t => if indN row = 0 ∧ marker t = true then none else some (indN row, t)
def splitL (no : Nat) (acc : List Ln) (l : List UInt8) : List Ln × Nat × Int :=
 if h : l = [] then (acc, 0, 0)
 else
  match oneL (l.take (rowN l)) with
  | none => ([], no + 1, 3)
  | some (k, t) => splitL (no + 1) (if t = [] then acc else acc ++ [⟨no + 1, k, t⟩]) (l.drop (rowN l + 1))
 termination_by l.length
 decreasing_by
  rw [List.length_drop]
  have := List.length_pos_iff.2 h
  omega
theorem splitL_nil (no : Nat) (acc : List Ln) : splitL no acc [] = (acc, 0, 0) := by rw [splitL, dif_pos rfl]
theorem splitL_bad {no : Nat} {acc : List Ln} {l : List UInt8} (h : l ≠ []) (h1 : oneL (l.take (rowN l)) = none) : splitL no acc l = ([], no + 1, 3) := by rw [splitL, dif_neg h, h1]
theorem splitL_next {no : Nat} {acc : List Ln} {l : List UInt8} {k : Nat} {t : List UInt8} (h : l ≠ []) (h1 : oneL (l.take (rowN l)) = some (k, t)) :
  splitL no acc l = splitL (no + 1) (if t = [] then acc else acc ++ [⟨no + 1, k, t⟩]) (l.drop (rowN l + 1)) := by rw [splitL, dif_neg h, h1]
def fileL (l : List UInt8) : List Ln × Nat × Int := if 8192 < l.length then ([], 0, 9) else splitL 0 [] l
end Q6
end Go.Proofs.YtmdgpejedbkkdaaGreatDoor
namespace Go.Proofs.YtmdgpejedbkkdaaGreatDoor
namespace B10
open Nw N8 Q6 F9
def hyp (l : L8) : Bool := decide (l.headD 0 = 45) && (decide (l.length = 1) || decide (l.getD 1 0 = 32))
def mrk (l : L8) (k : Nat) : Bool := decide (l.getD k 0 = 58) && (decide (k + 1 = l.length) || decide (l.getD (k + 1) 0 = 32))
def bhd (l : L8) (k : Nat) : L8 := l.drop (k + 1 + blk (l.drop (k + 1)))
def fstM (l : L8) (k : Nat) : Option Nat := if h : k < l.length then (if mrk l k then some k else fstM l (k + 1)) else none
 termination_by l.length - k
def entP (l : L8) : Option (Option (L8 × L8)) :=
 if decide (l = []) || hyp l || decide (l.headD 0 = 91) || decide (l.headD 0 = 123) then some none
 else if isQ (l.headD 0) then
  match scnP l with
  | none => some none
  | some (t, m) => if mrk l m then some (some (t, bhd l m)) else some none
 else
  match fstM l 0 with
  | none => some none
  | some k => if plainB (l.take k) && !decide (l.take k = [60, 60]) then some (some (l.take k, bhd l k)) else none
inductive Res where
 | bad (no : Nat) (e : Int)
 | ok (d : Nd) (k : Nat)
def Res.more (j : Nat) : Res → Res
 | .bad no e => .bad no e
 | .ok d k => .ok d (j + k)
def valL (l : L8) (no : Nat) : Res :=
 if decide (l.headD 0 = 91) || decide (l.headD 0 = 123) then (if parE (parP l) = 0 then .ok (parD (parP l)) 1 else .bad no (parE (parP l)))
 else match sclS false l with
  | none => .bad no 3
  | some d => .ok d 1
def cut1 (x : Ln) : Ln := { no := x.no, ind := x.ind + (1 + indN (x.text.drop 1)), text := x.text.drop (1 + indN (x.text.drop 1)) }
def big : List Ln → Nat
 | [] => 0
 | x :: l => 1 + x.text.length + big l
theorem big_drop : ∀ (k : Nat) (l : List Ln), big (l.drop k) ≤ big l
 | 0, l => Nat.le_refl _
 | k + 1, [] => Nat.le_refl _
 | k + 1, x :: l => by
  have := big_drop k l
  show big (l.drop k) ≤ 1 + x.text.length + big l
  omega
theorem cut1_lt {x : Ln} (h : 1 < x.text.length) : (cut1 x).text.length < x.text.length := by
 show (x.text.drop _).length < _
 rw [List.length_drop]
 omega
def deep (n : Nat) : List Ln → Bool
 | [] => false
 | x :: _ => decide (n < x.ind)
def even (n : Nat) : List Ln → Bool
 | [] => false
 | x :: _ => decide (x.ind = n) && hyp x.text
mutual
def blkB (l : List Ln) : Res :=
 match l with
 | [] => .bad 0 0
 | x :: l =>
  if hyp x.text then seqB x.ind [] (x :: l)
  else match entP x.text with
   | none => .bad x.no 3
   | some none => valL x.text x.no
   | some (some _) => mapB x.ind [] [] (x :: l)
 termination_by 2 * big l + 1
 decreasing_by all_goals omega
def seqB (n : Nat) (ad : List Nd) (l : List Ln) : Res :=
 match l with
 | [] => .ok (.mk 2 [] [] ad) 0
 | x :: l =>
  if x.ind < n then .ok (.mk 2 [] [] ad) 0
  else if n < x.ind then .bad x.no 3
  else if hyp x.text = false then .ok (.mk 2 [] [] ad) 0
  else
   match (if h : 1 < x.text.length then blkB (cut1 x :: l) else if deep n l then (blkB l).more 1 else .ok nul 1) with
   | .bad no e => .bad no e
   | .ok d k => (seqB n (ad ++ [d]) (l.drop (k - 1))).more (k - 1 + 1)
 termination_by 2 * big l
 decreasing_by
  ·have := cut1_lt h; simp only [big]; omega
  ·simp only [big]; omega
  ·have := big_drop (k - 1) l; simp only [big]; omega
def mapB (n : Nat) (ak : List L8) (ad : List Nd) (l : List Ln) : Res :=
 match l with
 | [] => .ok (.mk 3 [] ak ad) 0
 | x :: l =>
  if x.ind < n then .ok (.mk 3 [] ak ad) 0
  else if n < x.ind then .bad x.no 3
  else match entP x.text with
   | none => .bad x.no 3
   | some none => .ok (.mk 3 [] ak ad) 0
   | some (some (y, r)) =>
    if y ∈ ak then .bad x.no 3
    else
     match (if r ≠ [] then valL r x.no else if deep n l || even n l then (blkB l).more 1 else .ok nul 1) with
     | .bad no e => .bad no e
     | .ok d k => (mapB n (ak ++ [y]) (ad ++ [d]) (l.drop (k - 1))).more (k - 1 + 1)
 termination_by 2 * big l
 decreasing_by
  ·simp only [big]; omega
  ·have := big_drop (k - 1) l; simp only [big]; omega
end
def parB (l : L8) : Nd × Nat × Int :=
 match fileL l with
 | (ls, no, E) =>
  if E ≠ 0 then (nul, no, E)
  else match ls with
   | [] => (nul, 0, 0)
   | x :: ls =>
    match blkB (x :: ls) with
    | .bad no e => (nul, no, e)
    | .ok d k =>
     match (x :: ls).drop k with
     | y :: _ => (nul, y.no, 3)
     | [] => if okT 2000 d then (d, 0, 0) else (nul, 0, 9)
end B10
end Go.Proofs.YtmdgpejedbkkdaaGreatDoor
namespace Go.Proofs.YtmdgpejedbkkdaaGreatDoor
namespace B10
open Nw N8 Q6 F9
def kidS (n : Nat) (x : Ln) (l : List Ln) : Res := if 1 < x.text.length then blkB (cut1 x :: l) else if deep n l then (blkB l).more 1 else .ok nul 1
def kidM (n : Nat) (x : Ln) (l : List Ln) (r : L8) : Res := if r ≠ [] then valL r x.no else if deep n l || even n l then (blkB l).more 1 else .ok nul 1
def nextS (n : Nat) (ad : List Nd) (l : List Ln) : Res → Res
 | .bad no e => .bad no e
 | .ok d k => (seqB n (ad ++ [d]) (l.drop (k - 1))).more (k - 1 + 1)
def nextM (n : Nat) (ak : List L8) (ad : List Nd) (l : List Ln) (y : L8) : Res → Res
 | .bad no e => .bad no e
 | .ok d k => (mapB n (ak ++ [y]) (ad ++ [d]) (l.drop (k - 1))).more (k - 1 + 1)
theorem blk_seq {x : Ln} {l : List Ln} (h : hyp x.text = true) : blkB (x :: l) = seqB x.ind [] (x :: l) := by rw [blkB, if_pos h]
theorem blk_map {x : Ln} {l : List Ln} {p : L8 × L8} (h : hyp x.text = false) (he : entP x.text = some (some p)) : blkB (x :: l) = mapB x.ind [] [] (x :: l) := by
 rw [blkB, if_neg (by rw [h]; decide), he]
theorem blk_val {x : Ln} {l : List Ln} (h : hyp x.text = false) (he : entP x.text = some none) : blkB (x :: l) = valL x.text x.no := by
 rw [blkB, if_neg (by rw [h]; decide), he]
theorem blk_bad {x : Ln} {l : List Ln} (h : hyp x.text = false) (he : entP x.text = none) : blkB (x :: l) = .bad x.no 3 := by
 rw [blkB, if_neg (by rw [h]; decide), he]
theorem seq_nil (n : Nat) (ad : List Nd) : seqB n ad [] = .ok (.mk 2 [] [] ad) 0 := by rw [seqB]
theorem seq_low {n : Nat} {ad : List Nd} {x : Ln} {l : List Ln} (h : x.ind < n) : seqB n ad (x :: l) = .ok (.mk 2 [] [] ad) 0 := by rw [seqB, if_pos h]
theorem seq_high {n : Nat} {ad : List Nd} {x : Ln} {l : List Ln} (h : n < x.ind) : seqB n ad (x :: l) = .bad x.no 3 := by rw [seqB, if_neg (by omega), if_pos h]
theorem seq_other {n : Nat} {ad : List Nd} {x : Ln} {l : List Ln} (h : x.ind = n) (hy : hyp x.text = false) : seqB n ad (x :: l) = .ok (.mk 2 [] [] ad) 0 := by
 rw [seqB, if_neg (by omega), if_neg (by omega), if_pos hy]
theorem seq_kid {n : Nat} {ad : List Nd} {x : Ln} {l : List Ln} (h : x.ind = n) (hy : hyp x.text = true) : seqB n ad (x :: l) = nextS n ad l (kidS n x l) := by
 rw [seqB, if_neg (by omega), if_neg (by omega), if_neg (by rw [hy]; decide)]
 unfold kidS
 by_cases h1 : 1 < x.text.length
 ·rw [dif_pos h1, if_pos h1]
  cases blkB (cut1 x :: l) <;> rfl
 ·rw [dif_neg h1, if_neg h1]
  cases (if deep n l = true then (blkB l).more 1 else Res.ok nul 1) <;> rfl
theorem map_nil (n : Nat) (ak : List L8) (ad : List Nd) : mapB n ak ad [] = .ok (.mk 3 [] ak ad) 0 := by rw [mapB]
theorem map_low {n : Nat} {ak : List L8} {ad : List Nd} {x : Ln} {l : List Ln} (h : x.ind < n) : mapB n ak ad (x :: l) = .ok (.mk 3 [] ak ad) 0 := by rw [mapB, if_pos h]
theorem map_high {n : Nat} {ak : List L8} {ad : List Nd} {x : Ln} {l : List Ln} (h : n < x.ind) : mapB n ak ad (x :: l) = .bad x.no 3 := by rw [mapB, if_neg (by omega), if_pos h]
theorem map_bad {n : Nat} {ak : List L8} {ad : List Nd} {x : Ln} {l : List Ln} (h : x.ind = n) (he : entP x.text = none) : mapB n ak ad (x :: l) = .bad x.no 3 := by
 rw [mapB, if_neg (by omega), if_neg (by omega), he]
theorem map_other {n : Nat} {ak : List L8} {ad : List Nd} {x : Ln} {l : List Ln} (h : x.ind = n) (he : entP x.text = some none) : mapB n ak ad (x :: l) = .ok (.mk 3 [] ak ad) 0 := by
 rw [mapB, if_neg (by omega), if_neg (by omega), he]
theorem map_twice {n : Nat} {ak : List L8} {ad : List Nd} {x : Ln} {l : List Ln} {y r : L8} (h : x.ind = n) (he : entP x.text = some (some (y, r))) (hy : y ∈ ak) : mapB n ak ad (x :: l) = .bad x.no 3 := by
 rw [mapB, if_neg (by omega), if_neg (by omega), he]
 exact if_pos hy
theorem map_kid {n : Nat} {ak : List L8} {ad : List Nd} {x : Ln} {l : List Ln} {y r : L8} (h : x.ind = n) (he : entP x.text = some (some (y, r))) (hy : y ∉ ak) : mapB n ak ad (x :: l) = nextM n ak ad l y (kidM n x l r) := by
 rw [mapB, if_neg (by omega), if_neg (by omega), he]
 show (if y ∈ ak then _ else _) = _
 rw [if_neg hy]
 show (match kidM n x l r with | .bad no e => Res.bad no e | .ok d k => (mapB n (ak ++ [y]) (ad ++ [d]) (l.drop (k - 1))).more (k - 1 + 1)) = _
 cases kidM n x l r <;> rfl
theorem val_one {l : L8} {no : Nat} {d : Nd} {k : Nat} (h : valL l no = .ok d k) : k = 1 := by
 unfold valL at h
 split at h
 ·split at h
  ·injection h with h1 h2; exact h2.symm
  ·cases h
 ·split at h
  ·cases h
  ·injection h with h1 h2; exact h2.symm
theorem more_ok {j : Nat} {r : Res} {d : Nd} {k : Nat} (h : r.more j = .ok d k) : ∃ m, r = .ok d m ∧ k = j + m := by
 cases r with
 | bad no e => cases h
 | ok d2 m => injection h with h1 h2; exact ⟨m, by rw [h1], h2.symm⟩
theorem blk_facts : ∀ (N : Nat),
  (∀ x l, 2 * big (x :: l) + 1 ≤ N → ∀ d k, blkB (x :: l) = .ok d k → 1 ≤ k ∧ k ≤ (x :: l).length) ∧
  (∀ n ad l, 2 * big l ≤ N → ∀ d k, seqB n ad l = .ok d k → k ≤ l.length ∧ (∀ x t, l = x :: t → x.ind = n → hyp x.text = true → 1 ≤ k)) ∧
  (∀ n ak ad l, 2 * big l ≤ N → ∀ d k, mapB n ak ad l = .ok d k → k ≤ l.length ∧ (∀ x t p, l = x :: t → x.ind = n → entP x.text = some (some p) → 1 ≤ k)) := by
 intro N
 induction N with
 | zero =>
  refine ⟨fun x l h => absurd h (by omega), fun n ad l h d k hk => ?_, fun n ak ad l h d k hk => ?_⟩
  ·cases l with
   | nil =>
    rw [seq_nil] at hk
    injection hk with h1 h2
    exact ⟨by omega, fun x t e => by cases e⟩
   | cons x l => simp only [big] at h; omega
  ·cases l with
   | nil =>
    rw [map_nil] at hk
    injection hk with h1 h2
    exact ⟨by omega, fun x t p e => by cases e⟩
   | cons x l => simp only [big] at h; omega
 | succ N ih =>
  obtain ⟨ih1, ih2, ih3⟩ := ih
  have drop_len : ∀ (l : List Ln) (k m : Nat), 1 ≤ k → k ≤ l.length + 1 → m ≤ (l.drop (k - 1)).length → k - 1 + 1 + m ≤ l.length + 1 := fun l k m h1 h2 h3 => by
   rw [List.length_drop] at h3; omega
  refine ⟨fun x l h d k hk => ?_, fun n ad l h d k hk => ?_, fun n ak ad l h d k hk => ?_⟩
  ·cases hh : hyp x.text with
   | true =>
    rw [blk_seq hh] at hk
    have h2 := ih2 x.ind [] (x :: l) (by omega) d k hk
    exact ⟨h2.2 x l rfl rfl hh, h2.1⟩
   | false =>
    cases he : entP x.text with
    | none => rw [blk_bad hh he] at hk; cases hk
    | some o =>
     cases o with
     | none =>
      rw [blk_val hh he] at hk
      have := val_one hk
      exact ⟨by omega, by simp; omega⟩
     | some p =>
      rw [blk_map hh he] at hk
      have h2 := ih3 x.ind [] [] (x :: l) (by omega) d k hk
      exact ⟨h2.2 x l p rfl rfl he, h2.1⟩
  ·cases l with
   | nil =>
    rw [seq_nil] at hk
    injection hk with h1 h2
    exact ⟨by omega, fun x t e => by cases e⟩
   | cons x l =>
    have hbig : big (x :: l) = 1 + x.text.length + big l := rfl
    rcases Nat.lt_trichotomy x.ind n with hlt | heq | hgt
    ·rw [seq_low hlt] at hk
     injection hk with h1 h2
     exact ⟨by omega, fun y t e he => by injection e with e1 e2; subst e1; omega⟩
    ·cases hh : hyp x.text with
     | false =>
      rw [seq_other heq hh] at hk
      injection hk with h1 h2
      exact ⟨by omega, fun y t e _ he => by injection e with e1 e2; subst e1; rw [hh] at he; cases he⟩
     | true =>
      rw [seq_kid heq hh] at hk
      have hkid : ∀ d2 k2, kidS n x l = .ok d2 k2 → 1 ≤ k2 ∧ k2 ≤ l.length + 1 := fun d2 k2 h2 => by
       unfold kidS at h2
       split at h2
       ·rename_i h1
        have hc := cut1_lt h1
        have := ih1 (cut1 x) l (by simp only [big]; omega) d2 k2 h2
        exact ⟨this.1, by simpa using this.2⟩
       ·split at h2
        ·obtain ⟨m, hm1, hm2⟩ := more_ok h2
         cases l with
         | nil => rename_i hdp; cases hdp
         | cons z l =>
          have := ih1 z l (by simp only [big] at h ⊢; omega) d2 m hm1
          have h3 := this.2
          exact ⟨by omega, by omega⟩
        ·injection h2 with h3 h4
         exact ⟨by omega, by omega⟩
      cases hkr : kidS n x l with
      | bad no e => rw [hkr] at hk; cases hk
      | ok d2 k2 =>
       rw [hkr] at hk
       obtain ⟨m, hm1, hm2⟩ := more_ok hk
       have hb := big_drop (k2 - 1) l
       have h2 := ih2 n (ad ++ [d2]) (l.drop (k2 - 1)) (by omega) d m hm1
       obtain ⟨h5, h6⟩ := hkid d2 k2 hkr
       have := drop_len l k2 m h5 h6 h2.1
       exact ⟨by rw [List.length_cons]; omega, fun _ _ _ _ _ => by omega⟩
    ·rw [seq_high hgt] at hk; cases hk
  ·cases l with
   | nil =>
    rw [map_nil] at hk
    injection hk with h1 h2
    exact ⟨by omega, fun x t p e => by cases e⟩
   | cons x l =>
    have hbig : big (x :: l) = 1 + x.text.length + big l := rfl
    rcases Nat.lt_trichotomy x.ind n with hlt | heq | hgt
    ·rw [map_low hlt] at hk
     injection hk with h1 h2
     exact ⟨by omega, fun y t p e he => by injection e with e1 e2; subst e1; omega⟩
    ·cases he : entP x.text with
     | none => rw [map_bad heq he] at hk; cases hk
     | some o =>
      cases o with
      | none =>
       rw [map_other heq he] at hk
       injection hk with h1 h2
       exact ⟨by omega, fun y t p e _ h9 => by injection e with e1 e2; subst e1; rw [he] at h9; cases h9⟩
      | some p =>
       obtain ⟨y, r⟩ := p
       by_cases hy : y ∈ ak
       ·rw [map_twice heq he hy] at hk; cases hk
       ·rw [map_kid heq he hy] at hk
        have hkid : ∀ d2 k2, kidM n x l r = .ok d2 k2 → 1 ≤ k2 ∧ k2 ≤ l.length + 1 := fun d2 k2 h2 => by
         unfold kidM at h2
         split at h2
         ·have := val_one h2
          exact ⟨by omega, by omega⟩
         ·split at h2
          ·obtain ⟨m, hm1, hm2⟩ := more_ok h2
           cases l with
           | nil => rename_i hdp; cases hdp
           | cons z l =>
            have := ih1 z l (by simp only [big] at h ⊢; omega) d2 m hm1
            have h3 := this.2
            exact ⟨by omega, by omega⟩
          ·injection h2 with h3 h4
           exact ⟨by omega, by omega⟩
        cases hkr : kidM n x l r with
        | bad no e => rw [hkr] at hk; cases hk
        | ok d2 k2 =>
         rw [hkr] at hk
         obtain ⟨m, hm1, hm2⟩ := more_ok hk
         have hb := big_drop (k2 - 1) l
         have h2 := ih3 n (ak ++ [y]) (ad ++ [d2]) (l.drop (k2 - 1)) (by omega) d m hm1
         obtain ⟨h5, h6⟩ := hkid d2 k2 hkr
         have := drop_len l k2 m h5 h6 h2.1
         exact ⟨by rw [List.length_cons]; omega, fun _ _ _ _ _ _ => by omega⟩
    ·rw [map_high hgt] at hk; cases hk
theorem blk_took {x : Ln} {l : List Ln} {d : Nd} {k : Nat} (h : blkB (x :: l) = .ok d k) : 1 ≤ k ∧ k ≤ l.length + 1 := (blk_facts _).1 x l (Nat.le_refl _) d k h
end B10
end Go.Proofs.YtmdgpejedbkkdaaGreatDoor
namespace Go.Proofs.YtmdgpejedbkkdaaGreatDoor
namespace Q6
theorem takeWhile_le (p : UInt8 → Bool) (l : List UInt8) : (l.takeWhile p).length ≤ l.length := by
 induction l with
 | nil => exact Nat.le_refl _
 | cons b l ih =>
  rw [List.takeWhile_cons]
  split
  ·rw [List.length_cons, List.length_cons]; omega
  ·exact Nat.zero_le _
theorem indN_le (l : List UInt8) : indN l ≤ l.length := by unfold indN; exact takeWhile_le _ _
end Q6
end Go.Proofs.YtmdgpejedbkkdaaGreatDoor
namespace Go.Proofs.YtmdgpejedbkkdaaGreatDoor
namespace B10
open Nw N8 Q6 F9
theorem one_small {row t : L8} {k : Nat} (h : oneL row = some (k, t)) : k + t.length ≤ row.length := by
 unfold oneL at h
 have h1 : indN row ≤ row.length := indN_le _
 cases hs : sayL (row.drop (indN row)) with
 | none => rw [hs] at h; cases h
 | some t2 =>
  rw [hs] at h
  have h : (if indN row = 0 ∧ marker t2 = true then none else some (indN row, t2)) = some (k, t) := h
  split at h
  ·cases h
  ·injection h with h
   injection h with h2 h3
   subst h2; subst h3
   unfold sayL at hs
   cases he : endAt (row.drop (indN row)) 0 with
   | none => rw [he] at hs; cases hs
   | some e =>
    rw [he] at hs
    injection hs with hs
    rw [← hs, List.length_take, List.length_drop]
    omega
theorem split_small : ∀ (N : Nat) (l : L8), l.length ≤ N → ∀ no acc ls n E, splitL no acc l = (ls, n, E) → ls.length ≤ acc.length + l.length ∧ ∀ x ∈ ls, x ∈ acc ∨ x.ind + x.text.length ≤ l.length := by
 intro N
 induction N with
 | zero =>
  intro l hl no acc ls n E h
  obtain rfl : l = [] := List.length_eq_zero_iff.1 (by omega)
  rw [splitL, dif_pos rfl] at h
  injection h with h1 h2
  subst h1
  exact ⟨by omega, fun x hx => .inl hx⟩
 | succ N ih =>
  intro l hl no acc ls n E h
  by_cases h0 : l = []
  ·subst h0
   rw [splitL, dif_pos rfl] at h
   injection h with h1 h2
   subst h1
   exact ⟨by omega, fun x hx => .inl hx⟩
  ·have hlp := List.length_pos_iff.2 h0
   cases h1 : oneL (l.take (rowN l)) with
   | none =>
    rw [splitL_bad h0 h1] at h
    injection h with h2 h3
    subst h2
    exact ⟨Nat.zero_le _, fun x hx => by cases hx⟩
   | some p =>
    obtain ⟨k, t⟩ := p
    rw [splitL_next h0 h1] at h
    have hd : (l.drop (rowN l + 1)).length = l.length - (rowN l + 1) := List.length_drop ..
    have ho := one_small h1
    have ht : (l.take (rowN l)).length ≤ l.length := by rw [List.length_take]; omega
    obtain ⟨a1, a2⟩ := ih (l.drop (rowN l + 1)) (by omega) _ _ ls n E h
    refine ⟨?_, fun x hx => ?_⟩
    ·split at a1
     ·omega
     ·rw [List.length_append, List.length_singleton] at a1; omega
    ·rcases a2 x hx with h2 | h2
     ·split at h2
      ·exact .inl h2
      ·rcases List.mem_append.1 h2 with h2 | h2
       ·exact .inl h2
       ·rw [List.mem_singleton] at h2
        subst h2
        exact .inr (Nat.le_trans ho ht)
     ·exact .inr (by omega)
theorem file_small {l : L8} {ls : List Ln} {n : Nat} {E : Int} (h : fileL l = (ls, n, E)) : ls.length ≤ 8192 ∧ ∀ x ∈ ls, x.ind + x.text.length ≤ 8192 := by
 unfold fileL at h
 split at h
 ·injection h with h1 h2
  subst h1
  exact ⟨Nat.zero_le _, fun x hx => by cases hx⟩
 ·obtain ⟨h1, h2⟩ := split_small _ l (Nat.le_refl _) 0 [] ls n E h
  exact ⟨by rw [List.length_nil] at h1; omega, fun x hx => by
   rcases h2 x hx with h3 | h3
   ·cases h3
   ·omega⟩
def parK (L : List Ln) : Res → Nd × Nat × Int
 | .bad no e => (nul, no, e)
 | .ok d k => match L.drop k with
  | y :: _ => (nul, y.no, 3)
  | [] => if okT 2000 d then (d, 0, 0) else (nul, 0, 9)
theorem par_err {l : L8} {ls : List Ln} {no : Nat} {E : Int} (h : fileL l = (ls, no, E)) (hE : E ≠ 0) : parB l = (nul, no, E) := by
 unfold parB
 rw [h]
 exact if_pos hE
theorem par_nil {l : L8} {no : Nat} (h : fileL l = ([], no, 0)) : parB l = (nul, 0, 0) := by
 unfold parB
 rw [h]
 rfl
theorem par_cons {l : L8} {x : Ln} {ls : List Ln} {no : Nat} (h : fileL l = (x :: ls, no, 0)) : parB l = parK (x :: ls) (blkB (x :: ls)) := by
 unfold parB
 rw [h]
 show (if (0 : Int) ≠ 0 then _ else _) = _
 rw [if_neg (by decide)]
 show (match blkB (x :: ls) with | .bad no e => _ | .ok d k => _) = _
 cases blkB (x :: ls) <;> rfl
theorem parK_low {L : List Ln} {d : Nd} {k : Nat} (h : k < L.length) : parK L (.ok d k) = (nul, (L[k]'h).no, 3) := by
 unfold parK
 show (match L.drop k with | y :: _ => _ | [] => _) = _
 rw [List.drop_eq_getElem_cons h]
theorem parK_end {L : List Ln} {d : Nd} {k : Nat} (h : L.length ≤ k) : parK L (.ok d k) = if okT 2000 d then (d, 0, 0) else (nul, 0, 9) := by
 unfold parK
 show (match L.drop k with | y :: _ => _ | [] => _) = _
 rw [List.drop_of_length_le h]
end B10
end Go.Proofs.YtmdgpejedbkkdaaGreatDoor
