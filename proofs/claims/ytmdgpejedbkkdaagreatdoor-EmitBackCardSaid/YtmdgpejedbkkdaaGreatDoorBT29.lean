/- FloRun -/
import Derived.Test.YtmdgpejedbkkdaaGreatDoorBT26
set_option linter.unusedVariables false
set_option linter.unusedSimpArgs false
set_option maxRecDepth 100000
set_option maxHeartbeats 16000000
namespace Go.Proofs.YtmdgpejedbkkdaaGreatDoor
namespace F9
open Nw N8 Q6
def twi (ks : List L8) : Bool := decide ((sortL ks).length < ks.length)
theorem sort_one (x : L8) : (sortL [x]).length = 1 := by
 rw [sortL_eq (S := [x]) (List.pairwise_singleton _ _) (fun _ => Iff.rfl)]; rfl
theorem twi_nil : twi [] = false := by
 refine decide_eq_false ?_
 rw [sortL_nil]; exact Nat.lt_irrefl _
theorem twi_new {ks : List L8} {x : L8} (h : twi ks = false) (hx : x ∉ ks) : twi (ks ++ [x]) = false := by
 have h1 : ¬ (sortL ks).length < ks.length := of_decide_eq_false h
 have hf : (sortL ks).filter (fun y => !decide (y ∈ [x])) = sortL ks := List.filter_eq_self.2 fun y hy => by
  have h2 : y ∉ [x] := fun e => hx (by rw [List.mem_singleton] at e; rw [← e]; exact mem_sortL.1 hy)
  rw [decide_eq_false h2]; rfl
 refine decide_eq_false ?_
 rw [count_eq, hf, sort_one, List.length_append]
 show ¬ (sortL ks).length + 1 < ks.length + 1
 omega
theorem twi_old {ks : List L8} {x : L8} (h : twi ks = true ∨ x ∈ ks) : twi (ks ++ [x]) = true := by
 refine decide_eq_true ?_
 rw [count_eq, sort_one, List.length_append]
 have hle : ((sortL ks).filter fun y => !decide (y ∈ [x])).length ≤ (sortL ks).length := List.length_filter_le _ _
 have hle2 := sortL_length_le ks
 show ((sortL ks).filter fun y => !decide (y ∈ [x])).length + 1 < ks.length + 1
 rcases h with h | h
 ·have h3 : (sortL ks).length < ks.length := of_decide_eq_true h
  omega
 ·have h3 : ((sortL ks).filter fun y => !decide (y ∈ [x])).length < (sortL ks).length := by
   rcases Nat.lt_or_ge ((sortL ks).filter fun y => !decide (y ∈ [x])).length (sortL ks).length with h4 | h4
   ·exact h4
   ·have h5 := (List.length_filter_eq_length_iff.1 (Nat.le_antisymm hle h4)) x (mem_sortL.2 h)
    rw [decide_eq_true (List.mem_singleton.2 rfl)] at h5
    cases h5
  omega
def Dm (f : Fr) (S : List Fr) : Prop := twi f.ks = true ∨ ∃ g ∈ S, twi g.ks = true
def At (φ : Fr → List Fr → L8 → Option Nd) (f : Fr) (S : List Fr) (l : L8) (P : Option Nd) : Prop := (Dm f S ∧ P = none) ∨ (¬ Dm f S ∧ φ f S l = P)
def Kds : Fr → List Fr → Prop
 | f, [] => f.k = 0 ∧ f.ks = []
 | f, g :: S => ((f.k = 2 ∧ f.ks = []) ∨ f.k = 3) ∧ Kds g S
def Hld (φ : Fr → List Fr → L8 → Option Nd) (N M : Nat) (f : Fr) (S : List Fr) (l : L8) (P : Option Nd) : Prop :=
 Kds f S ∧ At φ f S l P ∧ (f.ds.length + l.length ≤ M ∧ f.ks.length + l.length ≤ N ∧ S.length + l.length ≤ N) ∧ ∀ e ∈ S, e.ds.length + l.length ≤ N ∧ e.ks.length + l.length ≤ N
theorem Hld.turn {φ ψ : Fr → List Fr → L8 → Option Nd} {N M M' : Nat} {f : Fr} {S : List Fr} {l l' : L8} {P : Option Nd} (h : Hld φ N M f S l P) (he : ¬ Dm f S → φ f S l = ψ f S l') (hl : l'.length ≤ l.length) (hm : f.ds.length + l'.length ≤ M') : Hld ψ N M' f S l' P := by
 obtain ⟨h1, h2, ⟨h3, h4, h5⟩, h6⟩ := h
 refine ⟨h1, h2.imp id (fun ⟨a, b⟩ => ⟨a, by rw [← he a]; exact b⟩), ⟨hm, by omega, by omega⟩, fun e he => ⟨by have := (h6 e he).1; omega, by have := (h6 e he).2; omega⟩⟩
theorem kds_three {f : Fr} {S : List Fr} (h : Kds f S) (hk : f.k = 3) : ∃ g T, S = g :: T := by
 cases S with
 | nil => obtain ⟨h1, -⟩ := h; rw [hk] at h1; exact absurd h1 (by decide)
 | cons g T => exact ⟨g, T, rfl⟩
theorem kds_key {f : Fr} {S : List Fr} (h : Kds f S) (hk : f.k = 3) (x : L8) : Kds (f.key x) S := by
 obtain ⟨g, T, rfl⟩ := kds_three h hk
 exact ⟨.inr hk, h.2⟩
theorem kds_add {f : Fr} {S : List Fr} (h : Kds f S) (d : Nd) : Kds (f.add d) S := by
 cases S with
 | nil => exact h
 | cons g T => exact h
theorem len_blk (l : L8) (k : Nat) : (l.drop k).length ≤ l.length := by rw [List.length_drop]; omega
theorem drop_blk (l : L8) (k : Nat) : (l.drop (blk l)).drop (blk (l.drop (blk l)) + k) = l.drop (blk l + k) := by rw [List.drop_drop, blk_idem, Nat.zero_add]
theorem thn_blk (f : Fr) (S : List Fr) (l : L8) : thn f S (l.drop (blk l)) = thn f S l := by
 cases S with
 | nil =>
  rw [thn_end, thn_end, blk_idem, List.length_drop]
  have := blk_le l
  by_cases h : l.length = blk l
  ·rw [if_pos h, if_pos (by omega)]
  ·rw [if_neg h, if_neg (by omega)]
 | cons g S =>
  rw [thn, thn]
  have e0 : (l.drop (blk l)).drop (blk (l.drop (blk l))) = l.drop (blk l) := drop_blk l 0
  have e1 := drop_blk l 1
  have e2 : ∀ k, (l.drop (blk l)).drop (blk (l.drop (blk l)) + 1 + k) = l.drop (blk l + 1 + k) := fun k => by rw [Nat.add_assoc, drop_blk, Nat.add_assoc]
  rw [e0, e1]
  simp only [e2]
theorem val_blk (f : Fr) (S : List Fr) (l : L8) : val f S (l.drop (blk l)) = val f S l := by
 unfold val
 have e0 : (l.drop (blk l)).drop (blk (l.drop (blk l))) = l.drop (blk l) := drop_blk l 0
 rw [e0]
 simp only [drop_blk]
theorem elm_blk (f : Fr) (S : List Fr) (l : L8) : elm f S (l.drop (blk l)) = elm f S l := by
 unfold elm
 have e0 : (l.drop (blk l)).drop (blk (l.drop (blk l))) = l.drop (blk l) := drop_blk l 0
 rw [e0, val_blk]
 simp only [drop_blk]
def colon (l : L8) : Bool := isC 58 (((l.drop (tkn l)).drop (blk (l.drop (tkn l)))).headD 0)
theorem key_scl {l : L8} (hb : blk l = 0) :
  keyP l = match sclS true (frm l) with
   | none => none
   | some d => if d.kind = 1 ∧ colon l = true then some (d.text, tkn l + blk (l.drop (tkn l)) + 1) else none := by
 cases hq : isQ (l.headD 0) with
 | true =>
  cases l with
  | nil => exact absurd hq (by decide)
  | cons c t =>
   have hc : c = 34 ∨ c = 39 := by
    have hq : isQ c = true := hq
    unfold isQ at hq
    rw [Bool.or_eq_true] at hq
    exact hq.imp of_decide_eq_true of_decide_eq_true
   have h1 : c ≠ 91 := by rcases hc with rfl | rfl <;> decide
   have h2 : c ≠ 123 := by rcases hc with rfl | rfl <;> decide
   have hv := val_scl hb (show (c :: t).headD 0 ≠ 91 from h1) (show (c :: t).headD 0 ≠ 123 from h2)
   rw [val_quoted h1 h2 hq] at hv
   unfold keyP colon
   rw [if_pos hq]
   cases hs : scnP (c :: t) with
   | none =>
    rw [hs] at hv
    cases hS : sclS true (frm (c :: t)) with
    | none => rfl
    | some d => rw [hS] at hv; cases hv
   | some p =>
    obtain ⟨v, n⟩ := p
    rw [hs] at hv
    cases hS : sclS true (frm (c :: t)) with
    | none => rw [hS] at hv; cases hv
    | some d =>
     rw [hS] at hv
     have hv : some (txt v, n) = some (d, tkn (c :: t)) := hv
     injection hv with hv
     injection hv with e1 e2
     subst e1
     rw [← e2]
     show (if ((c :: t).drop (n + blk ((c :: t).drop n))).headD 0 = 58 then some (v, n + blk ((c :: t).drop n) + 1) else none) = if (1 : Int) = 1 ∧ isC 58 ((((c :: t).drop n).drop (blk ((c :: t).drop n))).headD 0) = true then some (v, n + blk ((c :: t).drop n) + 1) else none
     rw [List.drop_drop]
     by_cases h9 : ((c :: t).drop (n + blk ((c :: t).drop n))).headD 0 = 58
     ·rw [if_pos h9, if_pos ⟨rfl, isC_iff.2 h9⟩]
     ·rw [if_neg h9, if_neg (fun e => h9 (isC_iff.1 e.2))]
 | false =>
  have ht : tkn l = pln l := by unfold tkn; rw [hq, if_neg Bool.false_ne_true]
  have hf : frm l = trm (l.take (pln l)) := by unfold frm; rw [ht]
  have hhd : isQ ((frm l).headD 0) = false := by
   obtain ⟨n, g1, g2, -, -⟩ := trm_split (l.take (pln l))
   rw [hf, g2]
   cases n with
   | zero => rfl
   | succ n =>
    cases hp : pln l with
    | zero => rfl
    | succ m => cases l with
     | nil => rfl
     | cons c t => exact hq
  have hb2 : blk (l.drop (pln l)) = 0 := by
   rcases Nat.lt_or_ge (pln l) l.length with hl | hl
   ·rw [drop_cons hl]
    exact blk_no (stops_39 (pln_stop hl)).2.2
   ·rw [List.drop_of_length_le hl]; rfl
  unfold keyP colon sclS
  rw [hq, if_neg Bool.false_ne_true, hhd, Bool.false_and, if_neg (c := (false = true)) Bool.false_ne_true, if_pos rfl, ht, hb2, List.drop_zero, ← hf]
  cases hb3 : bad3 (frm l) with
  | true =>
   have hr : rowB (frm l) = false := by
    rw [Bool.eq_false_iff]; intro e
    rw [(row_every e).1] at hb3; cases hb3
   rw [hr, if_pos rfl, Bool.false_and, if_neg Bool.false_ne_true]
   exact (if_neg (fun e => absurd (show (0 : Int) = 1 from e.1) (by decide))).symm
  | false =>
   rw [if_neg Bool.false_ne_true]
   cases hr : rowB (frm l) with
   | false => rw [Bool.false_and]; rfl
   | true =>
    rw [Bool.true_and, if_pos rfl]
    show (if decide ((l.drop (pln l)).headD 0 = 58) = true then _ else none) = if (1 : Int) = 1 ∧ isC 58 ((l.drop (pln l)).headD 0) = true then some (frm l, pln l + 0 + 1) else none
    by_cases h9 : (l.drop (pln l)).headD 0 = 58
    ·rw [if_pos (decide_eq_true h9), if_pos ⟨rfl, isC_iff.2 h9⟩, Nat.add_zero]
    ·rw [if_neg (fun e => h9 (of_decide_eq_true e)), if_neg (fun e => h9 (isC_iff.1 e.2))]
theorem drop_len {l : L8} {k : Nat} (h : (l.drop k).headD 0 ≠ 0) : (l.drop (k + 1)).length + 1 ≤ l.length := by
 rcases Nat.lt_or_ge k l.length with hl | hl
 ·rw [List.length_drop]; omega
 ·rw [List.drop_of_length_le hl] at h; exact absurd rfl h
theorem sclS_true (l : L8) : sclS true l = if bad3 l then some nul else if isQ (l.headD 0) && decide ((scnP l).map (·.2) = some l.length) then (scnP l).map fun p => txt p.1 else if rowB l then some (txt l) else none := rfl
variable {N M : Nat} {f g : Fr} {S : List Fr} {l l1 : L8} {P : Option Nd}
theorem Hld.nokey (h : Hld elm N N f S l P) (hk : f.k ≠ 3) : Hld val N N f S l P := h.turn (fun _ => by unfold elm; rw [if_neg hk]) (Nat.le_refl _) h.2.2.1.1
theorem Hld.key_bad (h : Hld elm N N f S l P) (hk : f.k = 3) (hl : l.drop (blk l) = l1) (hb : ∀ x, sclS true (frm l1) = some (txt x) → colon l1 = true → False) : P = none := by
 rcases h.2.1 with ⟨-, h2⟩ | ⟨-, h2⟩
 ·exact h2
 ·rw [← h2]
  unfold elm
  rw [if_pos hk, hl]
  have h0 : blk l1 = 0 := by rw [← hl]; exact blk_idem l
  rw [key_scl h0]
  cases hs : sclS true (frm l1) with
  | none => rfl
  | some d =>
   have : ¬ (d.kind = 1 ∧ colon l1 = true) := by
    rintro ⟨e1, e2⟩
    have e3 : d = txt d.text := by
     rw [sclS_true] at hs
     by_cases h1 : bad3 (frm l1) = true
     ·rw [if_pos h1] at hs
      injection hs with hs
      subst hs; exact absurd e1 (by decide)
     ·rw [if_neg h1] at hs
      by_cases h2 : (isQ ((frm l1).headD 0) && decide ((scnP (frm l1)).map (·.2) = some (frm l1).length)) = true
      ·rw [if_pos h2] at hs
       cases hp : scnP (frm l1) with
       | none => rw [hp] at hs; cases hs
       | some p => rw [hp] at hs; injection hs with hs; subst hs; rfl
      ·rw [if_neg h2] at hs
       by_cases h3 : rowB (frm l1) = true
       ·rw [if_pos h3] at hs
        injection hs with hs; subst hs; rfl
       ·rw [if_neg h3] at hs; cases hs
    exact hb d.text (by rw [hs, ← e3]) e2
   show (match (if d.kind = 1 ∧ colon l1 = true then _ else none : Option (L8 × Nat)) with | none => none | some p => _) = none
   rw [if_neg this]
theorem Hld.key_good (h : Hld elm N N f S l P) (hk : f.k = 3) (hl : l.drop (blk l) = l1) {x : L8} (hs : sclS true (frm l1) = some (txt x)) (hc : colon l1 = true) {l2 : L8} (h2 : l2 = (l1.drop (tkn l1)).drop (blk (l1.drop (tkn l1)) + 1)) :
  Hld val N N (f.key x) S l2 P ∧ l2.length + 1 ≤ l.length := by
 have h0 : blk l1 = 0 := by rw [← hl]; exact blk_idem l
 have hlen : l2.length + 1 ≤ l.length := by
  have e := drop_len (l := l1.drop (tkn l1)) (k := blk (l1.drop (tkn l1))) (fun e => by unfold colon at hc; rw [e] at hc; exact absurd hc (by decide))
  rw [← h2] at e
  have e1 := len_blk l1 (tkn l1)
  have e2 := len_blk l (blk l)
  rw [hl] at e2
  omega
 have he : l2 = l.drop (blk l + (tkn l1 + blk (l1.drop (tkn l1)) + 1)) := by
  rw [h2, ← hl, List.drop_drop, List.drop_drop]
  congr 1
 have hkey : keyP (l.drop (blk l)) = some (x, tkn l1 + blk (l1.drop (tkn l1)) + 1) := by
  rw [hl, key_scl h0, hs]
  exact if_pos ⟨rfl, hc⟩
 obtain ⟨h1, h3, ⟨h4, h5, h6⟩, h7⟩ := h
 refine ⟨⟨kds_key h1 hk x, ?_, ⟨by show f.ds.length + _ ≤ _; omega, ?_, by omega⟩, fun e he => ⟨by have := (h7 e he).1; omega, by have := (h7 e he).2; omega⟩⟩, hlen⟩
 ·rcases h3 with ⟨hd, hp⟩ | ⟨hd, hp⟩
  ·exact .inl ⟨hd.imp (fun e => twi_old (.inl e)) id, hp⟩
  ·unfold elm at hp
   rw [if_pos hk, hkey] at hp
   have hp : (if x ∈ f.ks then none else val (f.key x) S (l.drop (blk l + (tkn l1 + blk (l1.drop (tkn l1)) + 1)))) = P := hp
   by_cases hx : x ∈ f.ks
   ·rw [if_pos hx] at hp
    exact .inl ⟨.inl (twi_old (.inr hx)), hp.symm⟩
   ·rw [if_neg hx, ← he] at hp
    refine .inr ⟨fun e => hd ?_, hp⟩
    rcases e with e | e
    ·left
     rw [← Bool.not_eq_false]
     intro e2
     have e3 : twi (f.ks ++ [x]) = false := twi_new e2 hx
     have e : twi (f.ks ++ [x]) = true := e
     rw [e3] at e; cases e
    ·exact .inr e
 ·show (f.ks ++ [x]).length + _ ≤ _
  rw [List.length_append, List.length_singleton]; omega
def opn (f : Fr) (S : List Fr) (l : L8) : Option Nd := if (l.drop (blk l)).headD 0 = clo f.k then thn f S l else elm f S l
theorem push_dm {k : Int} (h : Dm f S) : Dm ⟨k, [], []⟩ (f :: S) := .inr (h.elim (fun e => ⟨f, List.mem_cons_self, e⟩) fun ⟨g, hg, e⟩ => ⟨g, List.mem_cons_of_mem _ hg, e⟩)
theorem push_no {k : Int} (h : ¬ Dm f S) : ¬ Dm ⟨k, [], []⟩ (f :: S) := fun e => h (by
 rcases e with e | ⟨g, hg, e⟩
 ·rw [show (⟨k, [], []⟩ : Fr).ks = [] from rfl, twi_nil] at e; cases e
 ·rw [List.mem_cons] at hg
  rcases hg with rfl | hg
  ·exact .inl e
  ·exact .inr ⟨g, hg, e⟩)
theorem Hld.open_any (h : Hld val N N f S l P) {k : Int} (hk : k = 2 ∨ k = 3) {b : UInt8} (hb : b = if k = 2 then 91 else 123) (hd : (l.drop (blk l)).headD 0 = b) {t : L8} (ht : t = l.drop (blk l + 1)) :
  Hld opn N N ⟨k, [], []⟩ (f :: S) t P ∧ t.length + 1 ≤ l.length := by
 have hb0 : b ≠ 0 := by rw [hb]; split <;> decide
 have hlen := drop_len (l := l) (k := blk l) (by rw [hd]; exact hb0)
 rw [← ht] at hlen
 have hlt : blk l < l.length := by
  rcases Nat.lt_or_ge (blk l) l.length with hl | hl
  ·exact hl
  ·rw [List.drop_of_length_le hl] at hd; exact absurd hd.symm hb0
 have hcons : l.drop (blk l) = b :: t := by
  rw [drop_cons hlt, ht]
  rw [drop_cons hlt] at hd
  rw [show l.getD (blk l) 0 = b from hd]
 obtain ⟨h1, h3, ⟨h4, h5, h6⟩, h7⟩ := h
 refine ⟨⟨⟨hk.imp (fun e => ⟨e, rfl⟩) id, h1⟩, ?_, ⟨by show 0 + _ ≤ _; omega, by show 0 + _ ≤ _; omega, by rw [List.length_cons]; omega⟩, ?_⟩, hlen⟩
 ·rcases h3 with ⟨g1, g2⟩ | ⟨g1, g2⟩
  ·exact .inl ⟨push_dm g1, g2⟩
  refine .inr ⟨push_no g1, ?_⟩
  rw [← g2]
  rcases hk with rfl | rfl
  ·rw [if_pos rfl] at hb
   subst hb
   rw [val_row2 hcons]; rfl
  ·rw [if_neg (by decide)] at hb
   subst hb
   rw [val_prs2 hcons]; rfl
 ·intro e he
  rw [List.mem_cons] at he
  rcases he with rfl | he
  ·exact ⟨by omega, by omega⟩
  ·have := h7 e he
   exact ⟨by omega, by omega⟩
theorem Hld.opn_yes (h : Hld opn N N f S l P) (hd : (l.drop (blk l)).headD 0 = clo f.k) (hl : l1 = l.drop (blk l)) : Hld thn N (N + 1) f S l1 P := by
 have e := len_blk l (blk l)
 have := h.2.2.1.1
 subst hl
 exact h.turn (fun _ => by rw [thn_blk]; exact if_pos hd) e (by omega)
theorem Hld.opn_no (h : Hld opn N N f S l P) (hd : (l.drop (blk l)).headD 0 ≠ clo f.k) (hl : l1 = l.drop (blk l)) : Hld elm N N f S l1 P := by
 have e := len_blk l (blk l)
 have := h.2.2.1.1
 subst hl
 exact h.turn (fun _ => by rw [elm_blk]; exact if_neg hd) e (by omega)
theorem Hld.val_skip (h : Hld val N N f S l P) (hl : l1 = l.drop (blk l)) : Hld val N N f S l1 P := by
 have e := len_blk l (blk l)
 have := h.2.2.1.1
 subst hl
 exact h.turn (fun _ => by rw [val_blk]) e (by omega)
theorem Hld.scl_none (h : Hld val N N f S l P) (hl : l.drop (blk l) = l1) (h1 : l1.headD 0 ≠ 91) (h2 : l1.headD 0 ≠ 123) (hs : sclS true (frm l1) = none) : P = none := by
 rcases h.2.1 with ⟨-, h3⟩ | ⟨-, h3⟩
 ·exact h3
 ·have h0 : blk l1 = 0 := by rw [← hl]; exact blk_idem l
  rw [← h3]
  unfold val
  rw [hl, val_scl h0 h1 h2, hs]; rfl
theorem Hld.scl_seq (h : Hld val N N f S l P) (hl : l.drop (blk l) = l1) (h1 : l1.headD 0 ≠ 91) (h2 : l1.headD 0 ≠ 123) (hf : frm l1 = []) (hk : f.k = 2) : P = none := by
 rcases h.2.1 with ⟨-, h3⟩ | ⟨-, h3⟩
 ·exact h3
 ·have h0 : blk l1 = 0 := by rw [← hl]; exact blk_idem l
  have ht : tkn l1 = 0 := by
   by_cases hn : l1 = []
   ·rw [hn]; rfl
   ·exact (frm_nil h0 hn).1 hf
  rw [← h3]
  unfold val
  rw [hl, val_scl h0 h1 h2]
  cases sclS true (frm l1) with
  | none => rfl
  | some d =>
   show (if f.k = 2 ∧ tkn l1 = 0 then none else _) = none
   rw [if_pos ⟨hk, ht⟩]
theorem Hld.scl_some (h : Hld val N N f S l P) (hl : l.drop (blk l) = l1) (h1 : l1.headD 0 ≠ 91) (h2 : l1.headD 0 ≠ 123) {d : Nd} (hs : sclS true (frm l1) = some d) (hf : frm l1 ≠ [] ∨ f.k ≠ 2) {l2 : L8} (he : l2 = l1.drop (tkn l1)) :
  Hld thn N (N + 1) (f.add d) S l2 P ∧ l2.length ≤ l.length := by
 have h0 : blk l1 = 0 := by rw [← hl]; exact blk_idem l
 have hlen : l2.length ≤ l.length := by rw [he, ← hl]; exact Nat.le_trans (len_blk _ _) (len_blk _ _)
 have hcond : ¬ (f.k = 2 ∧ tkn l1 = 0) := by
  rintro ⟨e1, e2⟩
  rcases hf with hf | hf
  ·by_cases hn : l1 = []
   ·rw [hn] at hf; exact hf rfl
   ·exact hf ((frm_nil h0 hn).2 e2)
  ·exact hf e1
 obtain ⟨g1, g3, ⟨g4, g5, g6⟩, g7⟩ := h
 refine ⟨⟨kds_add g1 d, ?_, ⟨?_, by show f.ks.length + _ ≤ _; omega, by omega⟩, fun e he => ⟨by have := (g7 e he).1; omega, by have := (g7 e he).2; omega⟩⟩, hlen⟩
 ·rcases g3 with g3 | ⟨a, b⟩
  ·exact .inl g3
  refine .inr ⟨a, ?_⟩
  rw [← b]
  unfold val
  rw [hl, val_scl h0 h1 h2, hs]
  show _ = (if f.k = 2 ∧ tkn l1 = 0 then none else thn (f.add d) S (l.drop (blk l + tkn l1)))
  rw [if_neg hcond, he, ← hl, List.drop_drop]
 ·show (f.ds ++ [d]).length + _ ≤ _
  rw [List.length_append, List.length_singleton]; omega
theorem Hld.pop (h : Hld thn N (N + 1) f (g :: S) l P) (hd : (l.drop (blk l)).headD 0 = clo f.k) (ht : twi f.ks = false) {l2 : L8} (he : l2 = l.drop (blk l + 1)) :
  Hld thn N (N + 1) (g.add f.nd) S l2 P ∧ l2.length + 1 ≤ l.length := by
 obtain ⟨⟨g1, g2⟩, g3, ⟨g4, g5, g6⟩, g7⟩ := h
 have hlen := drop_len (l := l) (k := blk l) (by rw [hd]; unfold clo; split <;> decide)
 rw [← he] at hlen
 have h9 := g7 g List.mem_cons_self
 rw [List.length_cons] at g6
 refine ⟨⟨kds_add g2 _, ?_, ⟨?_, by show g.ks.length + _ ≤ _; omega, by omega⟩, fun e he => ⟨by have := (g7 e (List.mem_cons_of_mem _ he)).1; omega, by have := (g7 e (List.mem_cons_of_mem _ he)).2; omega⟩⟩, hlen⟩
 ·rcases g3 with ⟨a, b⟩ | ⟨a, b⟩
  ·refine .inl ⟨?_, b⟩
   rcases a with a | ⟨x, hx, a⟩
   ·rw [ht] at a; cases a
   ·rw [List.mem_cons] at hx
    rcases hx with rfl | hx
    ·exact .inl a
    ·exact .inr ⟨x, hx, a⟩
  ·refine .inr ⟨fun e => a ?_, ?_⟩
   ·rcases e with e | ⟨x, hx, e⟩
    ·exact .inr ⟨g, List.mem_cons_self, e⟩
    ·exact .inr ⟨x, List.mem_cons_of_mem _ hx, e⟩
   ·rw [thn_eq g1, if_pos hd] at b
    rw [he]; exact b
 ·show (g.ds ++ [f.nd]).length + _ ≤ _
  rw [List.length_append, List.length_singleton]; omega
theorem Hld.thn_skip (h : Hld thn N (N + 1) f S l P) (hl : l1 = l.drop (blk l)) : Hld thn N (N + 1) f S l1 P := by
 have e := len_blk l (blk l)
 have := h.2.2.1.1
 subst hl
 exact h.turn (fun _ => by rw [thn_blk]) e (by omega)
theorem Hld.comma (h : Hld thn N (N + 1) f (g :: S) l P) (hn : (l.drop (blk l)).headD 0 ≠ clo f.k ∨ twi f.ks = true) (hd : (l.drop (blk l)).headD 0 = 44) {l2 : L8} (he : l2 = l.drop (blk l + 1)) :
  Hld elm N N f (g :: S) l2 P ∧ l2.length + 1 ≤ l.length := by
 have hlen := drop_len (l := l) (k := blk l) (by rw [hd]; decide)
 rw [← he] at hlen
 have h9 := h.2.2.1.1
 refine ⟨h.turn (fun hdm => ?_) (by omega) (by omega), hlen⟩
 rw [thn_eq h.1.1, if_neg (hn.elim id fun e => absurd (.inl e) hdm), if_pos hd, he]
theorem Hld.nocomma (h : Hld thn N (N + 1) f (g :: S) l P) (hn : (l.drop (blk l)).headD 0 ≠ clo f.k ∨ twi f.ks = true) (hd : (l.drop (blk l)).headD 0 ≠ 44) : P = none := by
 rcases h.2.1 with ⟨-, h3⟩ | ⟨hdm, h3⟩
 ·exact h3
 ·rw [thn_eq h.1.1, if_neg (hn.elim id fun e => absurd (.inl e) hdm), if_neg hd] at h3
  exact h3.symm
theorem Hld.done (h : Hld thn N (N + 1) f [] l P) : P = if l.length = blk l then f.ds.head? else none := by
 have hn : ¬ Dm f [] := by
  rintro (e | ⟨x, hx, -⟩)
  ·rw [h.1.2, twi_nil] at e; cases e
  ·cases hx
 rcases h.2.1 with ⟨a, -⟩ | ⟨-, h3⟩
 ·exact absurd a hn
 ·rw [← h3, thn_end]
theorem hld_start (l : L8) : Hld elm l.length l.length ⟨0, [], []⟩ [] l (parP l) := by
 refine ⟨⟨rfl, rfl⟩, .inr ⟨?_, ?_⟩, ⟨by show 0 + _ ≤ _; omega, by show 0 + _ ≤ _; omega, by show 0 + _ ≤ _; omega⟩, fun e he => (by cases he)⟩
 ·rintro (e | ⟨x, hx, -⟩)
  ·rw [show (⟨0, [], []⟩ : Fr).ks = [] from rfl, twi_nil] at e; cases e
  ·cases hx
 ·rw [par_val]
  unfold elm
  rw [if_neg (show ¬ (⟨0, [], []⟩ : Fr).k = 3 by decide)]
end F9
end Go.Proofs.YtmdgpejedbkkdaaGreatDoor
