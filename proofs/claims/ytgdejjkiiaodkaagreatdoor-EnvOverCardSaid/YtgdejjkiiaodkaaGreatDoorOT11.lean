/- EnvPar -/
import Derived.Test.YtgdejjkiiaodkaaGreatDoorOT5
set_option linter.unusedVariables false
set_option linter.unusedSimpArgs false
set_option maxRecDepth 100000
set_option maxHeartbeats 16000000
namespace Go.Proofs.YtgdejjkiiaodkaaGreatDoor
namespace V12
open Nw Q6
def dropB (l : L8) : L8 := l.dropWhile fun c => decide (c = 32)
def dropE (l : L8) : L8 := (dropB l.reverse).reverse
def trimS (l : L8) : L8 := dropE (dropB l)
def cutN : L8 → Nat
 | [] => 0
 | c :: t => if c = 32 ∧ t.getD 0 0 = 35 then 0 else cutN t + 1
def befN (b : UInt8) : L8 → Nat
 | [] => 0
 | c :: t => if c = b then 0 else befN b t + 1
def isQ (l : L8) : Bool := decide (l.getD 0 0 = 34 ∨ l.getD 0 0 = 39)
def behindOk (l : L8) (n : Nat) : Bool :=
 let r := dropB (l.drop n)
 decide (r = [] ∨ (r.length < (l.drop n).length ∧ r.getD 0 0 = 35))
def valV (l : L8) : Option L8 :=
 if isQ l then (if scanE l 0 = 0 then (if behindOk l (scanN l 0).toNat then some (scanV l 0) else none) else none)
 else if goodL (trimS (l.take (cutN l))) then some (trimS (l.take (cutN l))) else none
def expL : L8 := [101, 120, 112, 111, 114, 116, 32]
def expS (s : L8) : L8 := if 7 < s.length ∧ s.take 7 = expL then trimS (s.drop 7) else s
def pairV (s : L8) : Option KV :=
 let at_ := befN 61 s
 if at_ = s.length ∨ isV (s.take at_) = false ∨ (at_ + 1 < s.length ∧ s.getD (at_ + 1) 0 = 32) then none
 else (valV (s.drop (at_ + 1))).map fun v => (s.take at_, v)
def lineV (l : L8) : Option (Option KV) :=
 let s := trimS l
 if s = [] ∨ s.getD 0 0 = 35 then some none else (pairV (expS s)).map some
def goV (no : Nat) (acc : List KV) (l : L8) : List KV × Nat × Int :=
 match l with
 | [] => if 64 < (gath acc).length then ([], 0, 9) else (gath acc, 0, 0)
 | c :: t => match lineV ((c :: t).take (befN 10 (c :: t))) with
  | none => ([], no + 1, 3)
  | some o => goV (no + 1) (acc ++ o.toList) ((c :: t).drop (befN 10 (c :: t) + 1))
 termination_by l.length
 decreasing_by
  rw [List.length_drop]
  simp only [List.length_cons]
  omega
def parV (l : L8) : List KV × Nat × Int := if 8192 < l.length then ([], 0, 9) else goV 0 [] l
def rowV (p : KV) : L8 := p.1 ++ 61 :: dblL p.2
def textV (l : List KV) : L8 := (l.map fun p => rowV p ++ [10]).flatten
theorem goV_nil (no : Nat) (acc : List KV) : goV no acc [] = if 64 < (gath acc).length then ([], 0, 9) else (gath acc, 0, 0) := by rw [goV]
theorem goV_bad {no : Nat} {acc : List KV} {l : L8} (h : l ≠ []) (hb : lineV (l.take (befN 10 l)) = none) : goV no acc l = ([], no + 1, 3) := by
 cases l with
 | nil => exact absurd rfl h
 | cons c t => rw [goV, hb]
theorem goV_next {no : Nat} {acc : List KV} {l : L8} {o : Option KV} (h : l ≠ []) (hb : lineV (l.take (befN 10 l)) = some o) : goV no acc l = goV (no + 1) (acc ++ o.toList) (l.drop (befN 10 l + 1)) := by
 cases l with
 | nil => exact absurd rfl h
 | cons c t => rw [goV, hb]
theorem befN_le (b : UInt8) : ∀ l : L8, befN b l ≤ l.length
 | [] => Nat.le_refl _
 | c :: t => by
  unfold befN
  have := befN_le b t
  rw [List.length_cons]
  split <;> omega
theorem befN_app {b : UInt8} : ∀ {l : L8} (r : L8), (∀ c ∈ l, c ≠ b) → befN b (l ++ b :: r) = l.length
 | [], r, _ => by show (if b = b then 0 else _) = 0; rw [if_pos rfl]
 | c :: t, r, h => by
  show (if c = b then 0 else befN b (t ++ b :: r) + 1) = _
  rw [if_neg (h c List.mem_cons_self), befN_app r fun d hd => h d (List.mem_cons_of_mem _ hd)]; rfl
theorem dropB_no {l : L8} (h : l.getD 0 0 ≠ 32) : dropB l = l := by
 cases l with
 | nil => rfl
 | cons c t =>
  unfold dropB
  rw [List.dropWhile_cons]
  have hc : c ≠ 32 := h
  rw [decide_eq_false hc]
  rfl
theorem trim_no {l : L8} (h : l.getD 0 0 ≠ 32) (h2 : l.reverse.getD 0 0 ≠ 32) : trimS l = l := by
 unfold trimS dropE
 rw [dropB_no h, dropB_no h2, List.reverse_reverse]
theorem v2_byte {c : UInt8} (h : v2 c = true) : c ≠ 10 ∧ c ≠ 32 ∧ c ≠ 35 ∧ c ≠ 61 := by
 refine ⟨?_, ?_, ?_, ?_⟩ <;> rintro rfl <;> revert h <;> decide
theorem v1_v2 {c : UInt8} (h : v1 c = true) : v2 c = true := by unfold v2; rw [h]; rfl
theorem isV_byte {k : L8} (h : isV k = true) : 0 < k.length ∧ ∀ c ∈ k, c ≠ 10 ∧ c ≠ 32 ∧ c ≠ 35 ∧ c ≠ 61 := by
 have h1 : 0 < k.length ∧ k.length ≤ 24 ∧ Nw.good v1 v2 k k.length := of_decide_eq_true h
 refine ⟨h1.1, fun c hc => ?_⟩
 obtain ⟨j, hj, rfl⟩ := List.getElem_of_mem hc
 have := h1.2.2 j hj
 rw [List.getD_eq_getElem?_getD, List.getElem?_eq_getElem hj] at this
 change okAt v1 v2 j k[j] = true at this
 unfold okAt at this
 split at this
 ·exact v2_byte (v1_v2 this)
 ·exact v2_byte this
theorem esc_ne (c : UInt8) : ∀ d ∈ esc c, d ≠ 10 := by
 have key : ∀ n : Fin 256, (esc (UInt8.ofNat n.val)).all (fun d => decide (d ≠ 10)) = true := by decide +kernel
 have := key ⟨c.toNat, c.toNat_lt⟩
 rw [show UInt8.ofNat (⟨c.toNat, c.toNat_lt⟩ : Fin 256).val = c from UInt8.ofNat_toNat] at this
 exact fun d hd => of_decide_eq_true (List.all_eq_true.1 this d hd)
theorem escL_ne (l : L8) : ∀ d ∈ escL l, d ≠ 10 := by
 intro d hd
 unfold escL at hd
 obtain ⟨e, he, hd⟩ := List.mem_flatten.1 hd
 obtain ⟨c, hc, rfl⟩ := List.mem_map.1 he
 exact esc_ne c d hd
theorem dbl_ne (l : L8) : ∀ d ∈ dblL l, d ≠ 10 := by
 intro d hd
 unfold dblL at hd
 rcases List.mem_append.1 hd with hd | hd
 ·rcases List.mem_cons.1 hd with rfl | hd
  ·decide
  ·exact escL_ne l d hd
 ·rcases List.mem_cons.1 hd with rfl | hd
  ·decide
  ·cases hd
theorem row_ne {p : KV} (h : isV p.1 = true) : ∀ d ∈ rowV p, d ≠ 10 := by
 intro d hd
 rcases List.mem_append.1 hd with hd | hd
 ·exact ((isV_byte h).2 d hd).1
 ·rcases List.mem_cons.1 hd with rfl | hd
  ·decide
  ·exact dbl_ne _ d hd
theorem dbl_scan (t : L8) : scanE (dblL t) 0 = 0 ∧ scanN (dblL t) 0 = ((dblL t).length : Int) ∧ scanV (dblL t) 0 = t ∧ isQ (dblL t) = true := by
 have hq : isQuote (dblL t) 0 = true := by unfold isQuote dblL; simp; omega
 have hs : scanR (dblL t) 0 = some (t, (dblL t).length) := by
  unfold scanR
  rw [if_pos (show (dblL t).getD 0 0 = 34 from rfl)]
  unfold atD
  have e : (dblL t).drop (0 + 1) = escL t ++ 34 :: [] := rfl
  rw [e, scD_esc]
  simp only [Option.map_some, push, List.nil_append]
  congr 2
  unfold dblL
  simp; omega
 refine ⟨?_, ?_, ?_, rfl⟩
 ·unfold scanE; rw [if_pos hq]; show outE (scanR (dblL t) 0) = 0; rw [hs]; rfl
 ·unfold scanN; rw [if_pos hq]; show outN (scanR (dblL t) 0) = _; rw [hs]; rfl
 ·unfold scanV; rw [if_pos hq]; show outV (scanR (dblL t) 0) = _; rw [hs]; rfl
theorem val_dbl (t : L8) : valV (dblL t) = some t := by
 obtain ⟨h1, h2, h3, h4⟩ := dbl_scan t
 have hb : behindOk (dblL t) (scanN (dblL t) 0).toNat = true := by
  rw [h2]
  unfold behindOk
  rw [show ((dblL t).length : Int).toNat = (dblL t).length from Int.toNat_natCast _, List.drop_length]
  rfl
 unfold valV
 rw [if_pos h4, if_pos h1, if_pos hb, h3]
theorem row_line {p : KV} (h : isV p.1 = true) : lineV (rowV p) = some (some p) := by
 obtain ⟨h0, hb⟩ := isV_byte h
 have hhead : ∀ d, (rowV p).getD 0 0 = d → d ≠ 32 ∧ d ≠ 35 := by
  rintro d rfl
  unfold rowV
  cases hk : p.1 with
  | nil => rw [hk] at h0; exact absurd h0 (Nat.lt_irrefl _)
  | cons c t =>
   have := hb c (by rw [hk]; exact List.mem_cons_self)
   exact ⟨this.2.1, this.2.2.1⟩
 have hlast : (rowV p).reverse.getD 0 0 ≠ 32 := by
  unfold rowV dblL
  simp
 have ht : trimS (rowV p) = rowV p := trim_no (hhead _ rfl).1 hlast
 have hnn : rowV p ≠ [] := by unfold rowV; simp
 have hbef : befN 61 (rowV p) = p.1.length := befN_app _ fun c hc => ((hb c hc).2.2.2)
 have hexp : expS (rowV p) = rowV p := by
  unfold expS
  rw [if_neg]
  rintro ⟨_, e⟩
  have h32 : (32 : UInt8) ∈ (rowV p).take 7 := by rw [e]; decide
  have h6 : (rowV p).getD 6 0 = 32 := by
   have : ((rowV p).take 7).getD 6 0 = 32 := by rw [e]; rfl
   rw [List.getD_eq_getElem?_getD, List.getElem?_take_of_lt (by omega)] at this
   rw [List.getD_eq_getElem?_getD]; exact this
  by_cases hlen : 6 < p.1.length
  ·unfold rowV at h6
   rw [List.getD_eq_getElem?_getD, List.getElem?_append_left hlen, List.getElem?_eq_getElem hlen] at h6
   exact (hb _ (List.getElem_mem hlen)).2.1 h6
  ·-- 61 stands among the first seven
   have h61 : (rowV p).getD p.1.length 0 = 61 := by unfold rowV; rw [List.getD_eq_getElem?_getD, List.getElem?_append_right (Nat.le_refl _), Nat.sub_self]; rfl
   have h3 : ((rowV p).take 7).getD p.1.length 0 = 61 := by
    rw [List.getD_eq_getElem?_getD, List.getElem?_take_of_lt (by omega), ← List.getD_eq_getElem?_getD]; exact h61
   rw [e] at h3
   have : ∀ n : Fin 7, expL.getD n.val 0 ≠ 61 := by decide
   exact this ⟨p.1.length, by omega⟩ h3
 unfold lineV
 simp only [ht, hexp]
 rw [if_neg (by rintro (e | e); exact hnn e; exact (hhead _ e).2 rfl)]
 unfold pairV
 have htake : (rowV p).take p.1.length = p.1 := by unfold rowV; exact List.take_left
 have hdrop : (rowV p).drop (p.1.length + 1) = dblL p.2 := by
  unfold rowV
  rw [List.drop_append, List.drop_of_length_le (by omega)]
  rw [show p.1.length + 1 - p.1.length = 1 by omega]; rfl
 simp only [hbef, htake, hdrop]
 rw [if_neg, val_dbl]
 ·rfl
 ·rintro (e | e | ⟨_, e⟩)
  ·unfold rowV at e; rw [List.length_append, List.length_cons] at e; omega
  ·rw [h] at e; cases e
  ·have h34 : (rowV p).getD (p.1.length + 1) 0 = 34 := by
    unfold rowV; rw [List.getD_eq_getElem?_getD, List.getElem?_append_right (by omega), show p.1.length + 1 - p.1.length = 1 by omega]; rfl
   rw [h34] at e; revert e; decide
theorem go_text : ∀ (x : List KV) (no : Nat) (acc : List KV), (∀ p ∈ x, isV p.1 = true) → goV no acc (textV x) = goV (no + x.length) (acc ++ x) []
 | [], no, acc, _ => by rw [List.append_nil]; rfl
 | p :: x, no, acc, h => by
  have hp := h p List.mem_cons_self
  have e : textV (p :: x) = rowV p ++ 10 :: textV x := by unfold textV; simp
  have hb : befN 10 (rowV p ++ 10 :: textV x) = (rowV p).length := befN_app _ (row_ne hp)
  rw [e, goV_next (o := some p) (by simp) (by rw [hb, List.take_left]; exact row_line hp), hb]
  have hd : (rowV p ++ 10 :: textV x).drop ((rowV p).length + 1) = textV x := by
   rw [List.drop_append, List.drop_of_length_le (by omega), show (rowV p).length + 1 - (rowV p).length = 1 by omega]; rfl
  rw [hd, go_text x (no + 1) _ fun q hq => h q (List.mem_cons_of_mem _ hq)]
  have e2 : acc ++ (some p).toList ++ x = acc ++ p :: x := by simp
  rw [e2, List.length_cons, show no + 1 + x.length = no + (x.length + 1) by omega]
theorem par_text {x : List KV} (h : EnvOk x) (hl : x.length ≤ 64) (ht : (textV x).length ≤ 8192) : parV (textV x) = (x, 0, 0) := by
 unfold parV
 rw [if_neg (by omega), go_text x 0 [] h.ok, List.nil_append, goV_nil, gath_env h, if_neg (by omega)]
theorem par_long {l : L8} (h : 8192 < l.length) : parV l = ([], 0, 9) := by unfold parV; rw [if_pos h]
end V12
end Go.Proofs.YtgdejjkiiaodkaaGreatDoor
