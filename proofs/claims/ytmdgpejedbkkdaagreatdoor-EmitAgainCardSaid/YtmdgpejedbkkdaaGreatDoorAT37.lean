/- BloWay, BloRow, BloVal -/
import Derived.Lib.IndexMore
import Derived.Test.YtmdgpejedbkkdaaGreatDoorAT25
import Derived.Test.YtmdgpejedbkkdaaGreatDoorAT28
import Derived.Test.YtmdgpejedbkkdaaGreatDoorAT31
import Derived.Test.YtmdgpejedbkkdaaGreatDoorAT36
import Derived.Test.YtmdgpejedbkkdaaGreatDoorAT6
set_option linter.unusedVariables false
set_option linter.unusedSimpArgs false
set_option maxRecDepth 100000
set_option maxHeartbeats 16000000
open Go.Lib (hid)
namespace Go.Proofs.YtmdgpejedbkkdaaGreatDoor
open Nw N8 Q6 F9
namespace B10
theorem entP_hyp {l : L8} (h : entP l = none) : hyp l = false := by
 rw [Bool.eq_false_iff]; intro e
 rw [ent_zero (by rw [e, Bool.or_true]; rfl)] at h
 cases h
def Stuck (n : Nat) (y : Ln) : Prop := n < y.ind ∨ entP y.text = none
theorem Stuck.le {m n : Nat} {y : Ln} (h : Stuck n y) (hm : m ≤ n) : Stuck m y := by
 rcases h with h | h
 ·exact .inl (by omega)
 ·exact .inr h
theorem Stuck.hyp {n : Nat} {y : Ln} (h : Stuck n y) (hi : y.ind = n) : hyp y.text = false := by
 rcases h with h | h
 ·omega
 ·exact entP_hyp h
theorem Stuck.ent {n : Nat} {y : Ln} (h : Stuck n y) (hi : y.ind = n) : entN (entP y.text) = -1 := by
 rcases h with h | h
 ·omega
 ·rw [h]; rfl
def Gets (n : Nat) (R : Res) (d : Nd) (j : Nat) (rest : List Ln) : Prop := R = .ok d j ∨ ∃ y t, R = .bad y.no 3 ∧ rest = y :: t ∧ Stuck n y
theorem Gets.le {m n : Nat} {R : Res} {d : Nd} {j : Nat} {rest : List Ln} (h : Gets n R d j rest) (hm : m ≤ n) : Gets m R d j rest := by
 rcases h with h | ⟨y, t, h1, h2, h3⟩
 ·exact .inl h
 ·exact .inr ⟨y, t, h1, h2, h3.le hm⟩
theorem Gets.more {n : Nat} {R : Res} {d : Nd} {j : Nat} {rest : List Ln} (h : Gets n R d j rest) (i : Nat) : Gets n (R.more i) d (i + j) rest := by
 rcases h with h | ⟨y, t, h1, h2, h3⟩
 ·exact .inl (by rw [h]; rfl)
 ·exact .inr ⟨y, t, by rw [h1]; rfl, h2, h3⟩
def SeqI (n : Nat) (T : Res) (ds : List Nd) (j : Nat) (rest : List Ln) : Prop :=
 (seqB n ds rest).more j = T ∨ ∃ y t, T = .bad y.no 3 ∧ rest = y :: t ∧ Stuck n y
theorem SeqI.start (n : Nat) (rest : List Ln) : SeqI n (seqB n [] rest) [] 0 rest := .inl (more_zero _)
theorem SeqI.done {n : Nat} {T : Res} {ds : List Nd} {j : Nat} (h : SeqI n T ds j []) : Gets n T (.mk 2 [] [] ds) j [] := by
 rcases h with h | ⟨y, t, h1, h2, h3⟩
 ·rw [seq_nil] at h
  exact .inl (by rw [← h]; rfl)
 ·cases h2
theorem SeqI.off {n : Nat} {T : Res} {ds : List Nd} {j : Nat} {x : Ln} {l : List Ln} (h : SeqI n T ds j (x :: l)) (hx : x.ind ≠ n ∨ B10.hyp x.text = false) : Gets n T (.mk 2 [] [] ds) j (x :: l) := by
 rcases h with h | ⟨y, t, h1, h2, h3⟩
 ·rcases Nat.lt_trichotomy x.ind n with hlt | heq | hgt
  ·rw [seq_low hlt] at h
   exact .inl (by rw [← h]; rfl)
  ·have hy : B10.hyp x.text = false := by
    rcases hx with hx | hx
    ·exact absurd heq hx
    ·exact hx
   rw [seq_other heq hy] at h
   exact .inl (by rw [← h]; rfl)
  ·rw [seq_high hgt] at h
   exact .inr ⟨x, l, by rw [← h]; rfl, rfl, .inl hgt⟩
 ·exact .inr ⟨y, t, h1, h2, h3⟩
theorem SeqI.on {n : Nat} {T : Res} {ds : List Nd} {j : Nat} {x : Ln} {l : List Ln} (h : SeqI n T ds j (x :: l)) (hi : x.ind = n) (hy : B10.hyp x.text = true) : (nextS n ds l (kidS n x l)).more j = T := by
 rcases h with h | ⟨y, t, h1, h2, h3⟩
 ·rw [seq_kid hi hy] at h
  exact h
 ·injection h2 with h2 h4
  subst h2
  rw [h3.hyp hi] at hy; cases hy
theorem SeqI.bad {n : Nat} {T : Res} {ds : List Nd} {j no : Nat} {er : Int} {x : Ln} {l : List Ln} (h : SeqI n T ds j (x :: l)) (hi : x.ind = n) (hy : B10.hyp x.text = true) (hk : kidS n x l = .bad no er) : T = .bad no er := by
 rw [← h.on hi hy, hk]; rfl
theorem SeqI.next {n k : Nat} {T : Res} {ds : List Nd} {d : Nd} {j : Nat} {x : Ln} {l rest : List Ln} (h : SeqI n T ds j (x :: l)) (hi : x.ind = n) (hy : B10.hyp x.text = true) (hw : Gets n (kidS n x l) d k rest) (hr : rest = (x :: l).drop k) : SeqI n T (ds ++ [d]) (j + k) rest := by
 have h0 := h.on hi hy
 rcases hw with hk | ⟨y, t, hk, h2, h3⟩
 ·have hk1 := kids_took hk
  rw [hk] at h0
  refine .inl ?_
  rw [← h0, hr]
  show (seqB n (ds ++ [d]) ((x :: l).drop k)).more (j + k) = ((seqB n (ds ++ [d]) (l.drop (k - 1))).more (k - 1 + 1)).more j
  obtain ⟨k0, rfl⟩ : ∃ k0, k = k0 + 1 := ⟨k - 1, by omega⟩
  rw [more_more]; rfl
 ·exact .inr ⟨y, t, by rw [← h0, hk]; rfl, h2, h3⟩
def MapI (n : Nat) (T : Res) (ks : List L8) (ds : List Nd) (j : Nat) (rest : List Ln) : Prop :=
 (mapB n ks ds rest).more j = T ∨ ∃ y t, T = .bad y.no 3 ∧ rest = y :: t ∧ Stuck n y
theorem MapI.start (n : Nat) (rest : List Ln) : MapI n (mapB n [] [] rest) [] [] 0 rest := .inl (more_zero _)
theorem MapI.done {n : Nat} {T : Res} {ks : List L8} {ds : List Nd} {j : Nat} (h : MapI n T ks ds j []) : Gets n T (.mk 3 [] ks ds) j [] := by
 rcases h with h | ⟨y, t, h1, h2, h3⟩
 ·rw [map_nil] at h
  exact .inl (by rw [← h]; rfl)
 ·cases h2
theorem MapI.off {n : Nat} {T : Res} {ks : List L8} {ds : List Nd} {j : Nat} {x : Ln} {l : List Ln} (h : MapI n T ks ds j (x :: l)) (hx : x.ind ≠ n ∨ entN (entP x.text) ≠ 1) : Gets n T (.mk 3 [] ks ds) j (x :: l) := by
 rcases h with h | ⟨y, t, h1, h2, h3⟩
 ·rcases Nat.lt_trichotomy x.ind n with hlt | heq | hgt
  ·rw [map_low hlt] at h
   exact .inl (by rw [← h]; rfl)
  ·have hy : entN (entP x.text) ≠ 1 := by
    rcases hx with hx | hx
    ·exact absurd heq hx
    ·exact hx
   cases he : entP x.text with
   | none =>
    rw [map_bad heq he] at h
    exact .inr ⟨x, l, by rw [← h]; rfl, rfl, .inr he⟩
   | some o =>
    cases o with
    | none =>
     rw [map_other heq he] at h
     exact .inl (by rw [← h]; rfl)
    | some p => rw [he] at hy; exact absurd rfl hy
  ·rw [map_high hgt] at h
   exact .inr ⟨x, l, by rw [← h]; rfl, rfl, .inl hgt⟩
 ·exact .inr ⟨y, t, h1, h2, h3⟩
theorem MapI.norm {n : Nat} {T : Res} {ks : List L8} {ds : List Nd} {j : Nat} {x : Ln} {l : List Ln} {y r : L8} (h : MapI n T ks ds j (x :: l)) (hi : x.ind = n) (he : entP x.text = some (some (y, r))) : (mapB n ks ds (x :: l)).more j = T := by
 rcases h with h | ⟨z, t, h1, h2, h3⟩
 ·exact h
 ·injection h2 with h2 h4
  subst h2
  have := h3.ent hi
  rw [he] at this
  exact absurd this (show (1 : Int) ≠ -1 by decide)
theorem MapI.twice {n : Nat} {T : Res} {ks : List L8} {ds : List Nd} {j : Nat} {x : Ln} {l : List Ln} {y r : L8} (h : MapI n T ks ds j (x :: l)) (hi : x.ind = n) (he : entP x.text = some (some (y, r))) (hy : y ∈ ks) : T = .bad x.no 3 := by
 rw [← h.norm hi he, map_twice hi he hy]; rfl
theorem MapI.bad {n : Nat} {T : Res} {ks : List L8} {ds : List Nd} {j no : Nat} {er : Int} {x : Ln} {l : List Ln} {y r : L8} (h : MapI n T ks ds j (x :: l)) (hi : x.ind = n) (he : entP x.text = some (some (y, r))) (hy : y ∉ ks) (hk : kidM n x l r = .bad no er) : T = .bad no er := by
 rw [← h.norm hi he, map_kid hi he hy, hk]; rfl
theorem MapI.next {n k : Nat} {T : Res} {ks : List L8} {ds : List Nd} {d : Nd} {j : Nat} {x : Ln} {l rest : List Ln} {y r : L8} (h : MapI n T ks ds j (x :: l)) (hi : x.ind = n) (he : entP x.text = some (some (y, r))) (hy : y ∉ ks) (hw : Gets n (kidM n x l r) d k rest) (hr : rest = (x :: l).drop k) : MapI n T (ks ++ [y]) (ds ++ [d]) (j + k) rest := by
 have h0 := h.norm hi he
 rw [map_kid hi he hy] at h0
 rcases hw with hk | ⟨z, t, hk, h2, h3⟩
 ·have hk1 := kidm_took hk
  rw [hk] at h0
  refine .inl ?_
  rw [← h0, hr]
  show (mapB n (ks ++ [y]) (ds ++ [d]) ((x :: l).drop k)).more (j + k) = ((mapB n (ks ++ [y]) (ds ++ [d]) (l.drop (k - 1))).more (k - 1 + 1)).more j
  obtain ⟨k0, rfl⟩ : ∃ k0, k = k0 + 1 := ⟨k - 1, by omega⟩
  rw [more_more]; rfl
 ·exact .inr ⟨z, t, by rw [← h0, hk]; rfl, h2, h3⟩
def innR (least : Nat) : List Ln → Res
 | [] => .ok nul 0
 | x :: l => if x.ind < least then .ok nul 0 else blkB (x :: l)
theorem inn_cons (n : Nat) (y : Ln) (l : List Ln) : innR n (y :: l) = if y.ind < n then .ok nul 0 else blkB (y :: l) := rfl
theorem deep_cons (n : Nat) (y : Ln) (l : List Ln) : deep n (y :: l) = decide (n < y.ind) := rfl
theorem even_cons (n : Nat) (y : Ln) (l : List Ln) : even n (y :: l) = (decide (y.ind = n) && B10.hyp y.text) := rfl
theorem kidS_cut {n : Nat} {x : Ln} {l : List Ln} (h : 1 < x.text.length) : kidS n x l = blkB (cut1 x :: l) := if_pos h
theorem kidS_inn {n : Nat} {x : Ln} {l : List Ln} (h : ¬ 1 < x.text.length) : kidS n x l = (innR (n + 1) l).more 1 := by
 unfold kidS
 rw [if_neg h]
 cases l with
 | nil => rfl
 | cons y l =>
  rw [inn_cons, deep_cons]
  by_cases hy : n < y.ind
  ·rw [if_pos (decide_eq_true hy), if_neg (show ¬ y.ind < n + 1 by omega)]
  ·rw [if_neg (show ¬ decide (n < y.ind) = true by rw [decide_eq_false hy]; decide), if_pos (show y.ind < n + 1 by omega)]; rfl
theorem kidM_val {n : Nat} {x : Ln} {l : List Ln} {r : L8} (h : r ≠ []) : kidM n x l r = valL r x.no := if_pos h
theorem kidM_row {n : Nat} {x y : Ln} {l : List Ln} (h : B10.hyp y.text = true) : kidM n x (y :: l) [] = (innR n (y :: l)).more 1 := by
 unfold kidM
 rw [if_neg (by simp)]
 rw [inn_cons, deep_cons, even_cons, h, Bool.and_true]
 by_cases hy : y.ind < n
 ·rw [if_pos hy, if_neg (by rw [decide_eq_false (by omega), decide_eq_false (by omega)]; decide)]; rfl
 ·rw [if_neg hy, if_pos]
  rw [Bool.or_eq_true, decide_eq_true_iff, decide_eq_true_iff]; omega
theorem kidM_inn {n : Nat} {x : Ln} {l : List Ln} (h : ∀ y t, l = y :: t → B10.hyp y.text = false) : kidM n x l [] = (innR (n + 1) l).more 1 := by
 unfold kidM
 rw [if_neg (by simp)]
 cases l with
 | nil => rfl
 | cons y l =>
  rw [inn_cons, deep_cons, even_cons, h y l rfl, Bool.and_false, Bool.or_false]
  by_cases hy : n < y.ind
  ·rw [if_pos (decide_eq_true hy), if_neg (show ¬ y.ind < n + 1 by omega)]
  ·rw [if_neg (show ¬ decide (n < y.ind) = true by rw [decide_eq_false hy]; decide), if_pos (show y.ind < n + 1 by omega)]; rfl
theorem occ_mrk {l : L8} {k : Nat} (h : k < l.length) : Lib.occAt (l ++ [32]) [58, 32] k = mrk l k := by
 unfold Lib.occAt mrk
 rw [List.drop_append_of_le_length (by omega), drop_cons h, List.getD_eq_getElem?_getD, List.getElem?_eq_getElem h]
 show (([58, 32] : L8).isPrefixOf (l[k] :: (l.drop (k + 1) ++ [32]))) = _
 by_cases hk : k + 1 = l.length
 ·rw [List.drop_of_length_le (by omega), decide_eq_true hk, Bool.true_or, Bool.and_true]
  show (58 == l[k] && ((32 : UInt8) == 32 && true)) = decide (l[k] = 58)
  rw [show ((32 : UInt8) == 32) = true from rfl, Bool.true_and, Bool.and_true]
  exact decide_eq_decide.2 eq_comm
 ·have h2 : k + 1 < l.length := by omega
  rw [drop_cons h2, decide_eq_false hk, Bool.false_or, List.getD_eq_getElem?_getD, List.getElem?_eq_getElem h2]
  show (58 == l[k] && ((32 : UInt8) == l[k + 1] && true)) = (decide (l[k] = 58) && decide (l[k + 1] = 32))
  rw [Bool.and_true]
  exact congr (congrArg and (decide_eq_decide.2 eq_comm)) (decide_eq_decide.2 eq_comm)
theorem occ_end {l : L8} {k : Nat} (h : l.length ≤ k) : Lib.occAt (l ++ [32]) [58, 32] k = false := by
 unfold Lib.occAt
 rcases Nat.lt_or_ge l.length k with h1 | h1
 ·rw [List.drop_of_length_le (by simp; omega)]; rfl
 ·obtain rfl : k = l.length := by omega
  rw [List.drop_append_of_le_length (Nat.le_refl _), List.drop_length]; rfl
theorem fst_spec : ∀ (n : Nat) (l : L8) (k : Nat), l.length - k ≤ n → (∀ j, fstM l k = some j → k ≤ j ∧ j < l.length ∧ mrk l j = true ∧ ∀ i, k ≤ i → i < j → mrk l i = false) ∧ (fstM l k = none → ∀ i, k ≤ i → i < l.length → mrk l i = false)
 | 0, l, k, h => ⟨fun j hj => (by rw [fst_end (by omega)] at hj; cases hj), fun _ i h1 h2 => by omega⟩
 | n + 1, l, k, h => by
  by_cases hk : k < l.length
  ·cases hm : mrk l k with
   | true =>
    rw [fst_at hk hm]
    exact ⟨fun j hj => by injection hj with hj; subst hj; exact ⟨Nat.le_refl _, hk, hm, fun i h1 h2 => by omega⟩, fun hn => by cases hn⟩
   | false =>
    rw [fst_go hk hm]
    obtain ⟨h1, h2⟩ := fst_spec n l (k + 1) (by omega)
    refine ⟨fun j hj => ?_, fun hn i hi1 hi2 => ?_⟩
    ·obtain ⟨a1, a2, a3, a4⟩ := h1 j hj
     refine ⟨by omega, a2, a3, fun i hi1 hi2 => ?_⟩
     rcases Nat.lt_or_eq_of_le hi1 with hi | rfl
     ·exact a4 i hi hi2
     ·exact hm
    ·rcases Nat.lt_or_eq_of_le hi1 with hi | rfl
     ·exact h2 hn i hi hi2
     ·exact hm
  ·rw [fst_end (by omega)]
   exact ⟨fun j hj => (by cases hj), fun _ i h1 h2 => by omega⟩
def colN (l : L8) : Int := match fstM l 0 with | some k => (k : Int) | none => -1
theorem col_index (l : L8) : Lib.index (l ++ [32]) [58, 32] = colN l := by
 obtain ⟨h1, h2⟩ := fst_spec l.length l 0 (by omega)
 unfold colN
 cases hf : fstM l 0 with
 | some k =>
  obtain ⟨-, a2, a3, a4⟩ := h1 k hf
  exact Lib.index_first (by simp; omega) (by rw [occ_mrk a2]; exact a3) fun j hj => by rw [occ_mrk (by omega)]; exact a4 j (Nat.zero_le _) hj
 | none =>
  refine Lib.index_none fun j hj => ?_
  rcases Nat.lt_or_ge j l.length with h | h
  ·rw [occ_mrk h]; exact h2 hf j (Nat.zero_le _) h
  ·exact occ_end h
theorem col_zero {l : L8} {m : Nat} (hm : m ≤ l.length) : colN (l.drop m) = 0 ↔ mrk l m = true := by
 have e : ∀ (h : m < l.length), mrk (l.drop m) 0 = mrk l m := fun h => by
  unfold mrk
  rw [List.getD_eq_getElem?_getD, List.getD_eq_getElem?_getD, List.getElem?_drop, List.getElem?_drop, List.length_drop, List.getD_eq_getElem?_getD, List.getD_eq_getElem?_getD]
  rw [Nat.add_zero, Nat.zero_add, show m + 1 = m + 1 from rfl]
  have : decide (1 = l.length - m) = decide (m + 1 = l.length) := decide_eq_decide.2 (by omega)
  rw [this]
 rcases Nat.lt_or_ge m l.length with h | h
 ·constructor
  ·intro h0
   unfold colN at h0
   cases hf : fstM (l.drop m) 0 with
   | none => rw [hf] at h0; exact absurd h0 (show (-1 : Int) ≠ 0 by decide)
   | some k =>
    rw [hf] at h0
    have h0 : (k : Int) = 0 := h0
    obtain rfl : k = 0 := by omega
    have := ((fst_spec _ (l.drop m) 0 (Nat.le_refl _)).1 0 hf).2.2.1
    rw [← e h]; exact this
  ·intro h0
   unfold colN
   rw [fst_at (by rw [List.length_drop]; omega) (by rw [e h]; exact h0)]
   rfl
 ·constructor
  ·intro h0
   rw [List.drop_of_length_le h] at h0
   unfold colN at h0
   rw [fst_end (l := []) (k := 0) (Nat.le_refl _)] at h0
   exact absurd h0 (show (-1 : Int) ≠ 0 by decide)
  ·intro h0
   unfold mrk at h0
   rw [List.getD_eq_getElem?_getD, List.getElem?_eq_none h] at h0
   revert h0; simp
end B10
end Go.Proofs.YtmdgpejedbkkdaaGreatDoor
namespace Go.Proofs.YtmdgpejedbkkdaaGreatDoor
open Go.RowKit Go.Sort
open Nw N8 Q6 F9 B10
namespace B10
theorem hyp_pre : ∀ {l : L8}, l ≠ [45] → hyp l = Lib.hasPrefix l [45, 32]
 | [], _ => rfl
 | [a], h => by
  have ha : a ≠ 45 := fun e => h (by rw [e])
  unfold hyp Lib.hasPrefix
  have hb : ((45 : UInt8) == a) = false := beq_eq_false_iff_ne.2 (Ne.symm ha)
  rw [show ([a] : L8).headD 0 = a from rfl, decide_eq_false ha, Bool.false_and]
  show false = (((45 : UInt8) == a) && _)
  rw [hb, Bool.false_and]
 | a :: b :: l, _ => by
  unfold hyp Lib.hasPrefix
  show (decide (a = 45) && (decide ((a :: b :: l).length = 1) || decide (b = 32))) = (((45 : UInt8) == a) && ((((32 : UInt8) == b) && true)))
  rw [decide_eq_false (show ¬ (a :: b :: l).length = 1 by simp), Bool.false_or, Bool.and_true]
  exact congr (congrArg and (decide_eq_decide.2 eq_comm)) (decide_eq_decide.2 eq_comm)
end B10
theorem hp_q (s : ByteArray) (p : L8) (b : Bool) (h : Lib.hasPrefix s.data.toList p = b) : ∀ W, Calls Tryz.prog 101 #[.string s, .string ⟨p.toArray⟩] W fun e w' => e = .returned (.bool b) ∧ w' = W := fun W =>
 (Tryz.strings_HasPrefix s ⟨p.toArray⟩ W).mono fun e w' ⟨h1, h2⟩ => ⟨by rw [h1]; exact ret_b h, h2⟩
theorem Row_any10 (s : ByteArray) (b : Bool) (w : World) (h : hyp s.data.toList = b) :
  Calls Tryz.prog 72 #[.string s] w fun e w' => e = .returned (.bool b) ∧ w = w' := by
 by_cases h0 : s.data.toList = [45]
 ·have HE : Hid (true = b) := hid (by rw [← h, h0]; rfl)
  obtain rfl := bytes_of (l := #[45]) h0
  clear h h0
  go_enter Tryz.func72, Tryz.ntmps72
  go_wp2
  go_ret
  exact ⟨ret_b HE.out, rfl⟩
 ·have HP := hid (hp_q s [45, 32] b ((hyp_pre h0).symm.trans h))
  have b1 : (s.toList == [45]) = false := by rw [ByteArray.toList_eq]; exact beq_eq_false_iff_ne.2 h0
  clear h h0
  go_enter Tryz.func72, Tryz.ntmps72
  go_wp2_with (go_at_call 101; refine (HP.out _).mono ?_; rintro e w' ⟨rfl, rfl⟩)
  go_ret
  exact ⟨rfl, rfl⟩
theorem isFlow_any (s : ByteArray) (a b : Bool) (w : World) (ha : decide (s.data.toList.headD 0 = 91) = a) (hb : decide (s.data.toList.headD 0 = 123) = b) :
  Calls Tryz.prog 105 #[.string s] w fun e w' => e = .returned (.bool (a || b)) ∧ w = w' := by
 have HA := hid (hp_q s [91] a ((pre_one 91 (by decide) _).trans ha))
 have HB := hid (hp_q s [123] b ((pre_one 123 (by decide) _).trans hb))
 clear ha hb
 cases a with
 | true =>
  go_enter Tryz.func105, Tryz.ntmps105
  go_wp2_with (go_at_call 101; refine (HA.out _).mono ?_; rintro e w' ⟨rfl, rfl⟩)
  go_ret
  exact ⟨rfl, rfl⟩
 | false =>
  go_enter Tryz.func105, Tryz.ntmps105
  go_wp2_with fail
  refine (HA.out _).mono ?_
  rintro e w' ⟨rfl, rfl⟩
  go_wp2_with (go_at_call 101; refine (HB.out _).mono ?_; rintro e w' ⟨rfl, rfl⟩)
  go_ret
  exact ⟨rfl, rfl⟩
theorem isQuoted_any (s : ByteArray) (b : Bool) (w : World) (h : isQ (s.data.toList.headD 0) = b) :
  Calls Tryz.prog 106 #[.string s] w fun e w' => e = .returned (.bool b) ∧ w = w' := by
 obtain ⟨a, ha⟩ : ∃ a, decide (s.data.toList.headD 0 = 34) = a := ⟨_, rfl⟩
 obtain ⟨c, hc⟩ : ∃ c, decide (s.data.toList.headD 0 = 39) = c := ⟨_, rfl⟩
 have HA := hid (hp_q s [34] a ((pre_one 34 (by decide) _).trans ha))
 have HB := hid (hp_q s [39] c ((pre_one 39 (by decide) _).trans hc))
 have HE : Hid ((a || c) = b) := hid (by rw [← h, ← ha, ← hc]; rfl)
 clear ha hc h
 cases a with
 | true =>
  go_enter Tryz.func106, Tryz.ntmps106
  go_wp2_with (go_at_call 101; refine (HA.out _).mono ?_; rintro e w' ⟨rfl, rfl⟩)
  go_ret
  exact ⟨ret_b HE.out, rfl⟩
 | false =>
  go_enter Tryz.func106, Tryz.ntmps106
  go_wp2_with fail
  refine (HA.out _).mono ?_
  rintro e w' ⟨rfl, rfl⟩
  go_wp2_with (go_at_call 101; refine (HB.out _).mono ?_; rintro e w' ⟨rfl, rfl⟩)
  go_ret
  exact ⟨ret_b HE.out, rfl⟩
end Go.Proofs.YtmdgpejedbkkdaaGreatDoor
namespace Go.Proofs.YtmdgpejedbkkdaaGreatDoor
section
open Go.RowKit Go.Sort
open Nw N8 Q6 F9 B10 Go.ChangeShapes Go.WideShapes
def GivesV (R : Res) (no : Nat) (w : World) (e : Ending) (w' : World) : Prop := ∃ (k : Int) (t : ByteArray) (a : Option Addr) (n c : Nat) (A : Option Addr) (m q : Nat) (E : Int),
 e = .returned (.tuple #[.agg #[.int .i64 k, .string t, .slice a n c, .slice A m q], .int .i64 E]) ∧ Below w.heap.size w w' ∧
 ((E = 0 ∧ ∃ d, R = .ok d 1 ∧ NdC (fun b => w.heap.size ≤ b ∧ b < w'.heap.size) w' d (.int .i64 k) (.string t) (.slice a n c) (.slice A m q)) ∨ (E ≠ 0 ∧ R = .bad no E))
theorem flow_v (s : ByteArray) (w : World) (hs : s.size ≤ 500000) (no : Nat) : Calls Tryz.prog 132 #[.string s] w (GivesV (if parE (parP s.data.toList) = 0 then .ok (parD (parP s.data.toList)) 1 else .bad no (parE (parP s.data.toList))) no w) :=
 (parse_c s w hs _ rfl).mono fun e w' ⟨k, t, a, n, c, A, m, q, h1, h2, h3⟩ => ⟨k, t, a, n, c, A, m, q, _, h1, h3, by
  by_cases h0 : parE (parP s.data.toList) = 0
  ·rw [if_pos h0]; exact .inl ⟨h0, _, rfl, h2⟩
  ·rw [if_neg h0]; exact .inr ⟨h0, rfl⟩⟩
theorem scalar_v (s : ByteArray) (w : World) (hs : s.size ≤ 500000) (no : Nat) : Calls Tryz.prog 133 #[.string s, .bool false] w (GivesV (match sclS false s.data.toList with | none => .bad no 3 | some d => .ok d 1) no w) :=
 (FScalar_any s false w (by omega) _ rfl).mono fun e w' ⟨h1, h3⟩ => ⟨_, _, _, _, _, _, _, _, _, h1, h3, by
  have h := nd_scl (row := false) (l := s.data.toList) (fun b => w.heap.size ≤ b ∧ b < w'.heap.size) w'
  cases hP : sclS false s.data.toList with
  | none => exact .inr ⟨show (3 : Int) ≠ 0 by decide, rfl⟩
  | some d =>
   rw [hP] at h
   exact .inl ⟨rfl, d, rfl, h⟩⟩
theorem value_end {w w2 : World} {R : Res} {no : Nat} {k : Int} {t : ByteArray} {a : Option Addr} {n c : Nat} {A : Option Addr} {m q : Nat} {E : Int} (hb : Below w.heap.size w w2) (hs : w.heap.size + 1 ≤ w2.heap.size)
  (h : (E = 0 ∧ ∃ d, R = .ok d 1 ∧ NdC (fun b => w.heap.size + 1 ≤ b ∧ b < w2.heap.size) w2 d (.int .i64 k) (.string t) (.slice a n c) (.slice A m q)) ∨ (E ≠ 0 ∧ R = .bad no E)) :
  GivesV R no w (.returned (.tuple #[.agg #[.int .i64 k, .string t, .slice a n c, .slice A m q], .int .i64 E])) (p4 w2 w.heap.size (.int .i64 k) (.string t) (.slice a n c) (.slice A m q)) := by
 refine ⟨k, t, a, n, c, A, m, q, E, rfl, below_p4 hb (Nat.le_refl _) _ _ _ _, ?_⟩
 rcases h with ⟨h1, d, h2, h3⟩ | h
 ·exact .inl ⟨h1, d, h2, NdC.keep (fun b hx => ⟨⟨by have := hx.1; omega, by rw [p4_size]; exact hx.2⟩, p4_oth b (by have := hx.1; omega) _ _ _ _⟩) _ h3⟩
 ·exact .inr h
theorem value10_any (s : ByteArray) (w : World) (hs : s.size ≤ 500000) (no : Nat) (R : Res) (hR : valL s.data.toList no = R) :
  Calls Tryz.prog 111 #[.string s] w (GivesV R no w) := by
 obtain ⟨f, hf⟩ : ∃ f, (decide (s.data.toList.headD 0 = 91) || decide (s.data.toList.headD 0 = 123)) = f := ⟨_, rfl⟩
 have hb0 : Below w.heap.size w (w.alloc (.cells #[.int .i64 0, .string ⟨#[]⟩, .slice none 0 0, .slice none 0 0] 25)) := (Below.refl _ _).alloc (Nat.le_refl _) _
 have hs0 : (w.alloc (.cells #[.int .i64 0, .string ⟨#[]⟩, .slice none 0 0, .slice none 0 0] 25)).heap.size = w.heap.size + 1 := by simp
 have HR0 := hid (Row4.make w 25 (.int .i64 0) (.string ⟨#[]⟩) (.slice none 0 0) (.slice none 0 0))
 have HF := hid (fun W => isFlow_any s _ _ W rfl rfl)
 rw [hf] at HF
 have HV : Hid (∀ W, Calls Tryz.prog (if f then 132 else 133) (if f then #[.string s] else #[.string s, .bool false]) W (GivesV R no W)) := hid (by
  intro W
  unfold valL at hR
  cases f with
  | true =>
   rw [if_pos hf] at hR
   rw [← hR]
   exact flow_v s W hs no
  | false =>
   rw [if_neg (by rw [hf]; decide)] at hR
   rw [← hR]
   exact scalar_v s W hs no)
 have HB0 := hid hb0
 have HS0 := hid hs0
 clear hR hf hb0 hs0
 generalize hW1 : w.alloc (.cells #[.int .i64 0, .string ⟨#[]⟩, .slice none 0 0, .slice none 0 0] 25) = W1 at *
 cases f with
 | true =>
  have HV : Hid (∀ W, Calls Tryz.prog 132 #[.string s] W (GivesV R no W)) := HV
  go_enter Tryz.func111, Tryz.ntmps111
  go_wp2_with (go_at_call 105; refine (HF.out _).mono ?_; rintro e w' ⟨rfl, rfl⟩)
  refine (HV.out _).mono ?_
  rintro e w2 ⟨k, t, a, n, c, A, m, q, E, rfl, hb, hc⟩
  have HC := hid hc
  have HX := hid (HR0.out.below hb HR0.out.lt)
  have HB := hid (HB0.out.trans (hb.mono HB0.out.size))
  have HS := hid hb.size
  clear hc hb HR0 hW1
  obtain ⟨r0, r1, r2, r3⟩ := HX.out.cells
  obtain ⟨fr0, fr1, fr2, fr3⟩ := HX.out.frozen
  go_wp2
  refine bodyPost_ret (v := .tuple #[.agg #[.int .i64 k, .string t, .slice a n c, .slice A m q], .int .i64 E]) (by simp [results, Tryz.results111, go_sem, r0, r1, r2, r3]) rfl ?_
  refine value_end HB.out (by have h1 := HS.out; rw [HS0.out] at h1; exact h1) ?_
  rw [← HS0.out]; exact HC.out
 | false =>
  have HV : Hid (∀ W, Calls Tryz.prog 133 #[.string s, .bool false] W (GivesV R no W)) := HV
  go_enter Tryz.func111, Tryz.ntmps111
  go_wp2_with (go_at_call 105; refine (HF.out _).mono ?_; rintro e w' ⟨rfl, rfl⟩)
  refine (HV.out _).mono ?_
  rintro e w2 ⟨k, t, a, n, c, A, m, q, E, rfl, hb, hc⟩
  have HC := hid hc
  have HX := hid (HR0.out.below hb HR0.out.lt)
  have HB := hid (HB0.out.trans (hb.mono HB0.out.size))
  have HS := hid hb.size
  clear hc hb HR0 hW1
  obtain ⟨r0, r1, r2, r3⟩ := HX.out.cells
  obtain ⟨fr0, fr1, fr2, fr3⟩ := HX.out.frozen
  go_wp2
  refine bodyPost_ret (v := .tuple #[.agg #[.int .i64 k, .string t, .slice a n c, .slice A m q], .int .i64 E]) (by simp [results, Tryz.results111, go_sem, r0, r1, r2, r3]) rfl ?_
  refine value_end HB.out (by have h1 := HS.out; rw [HS0.out] at h1; exact h1) ?_
  rw [← HS0.out]; exact HC.out
end
end Go.Proofs.YtmdgpejedbkkdaaGreatDoor
