/- EmiScal, EmiBlk, EmiLine -/
import Derived.Test.YtmdgpejedbkkdaaGreatDoorAT3
import Derived.Test.YtmdgpejedbkkdaaGreatDoorAT4
import Derived.Test.YtmdgpejedbkkdaaGreatDoorAT5
import Derived.Test.YtmdgpejedbkkdaaGreatDoorAT6
set_option linter.unusedVariables false
set_option linter.unusedSimpArgs false
set_option maxRecDepth 100000
set_option maxHeartbeats 16000000
namespace Go.Proofs.YtmdgpejedbkkdaaGreatDoor
namespace E11
open Nw N8 Q6 F9 B10
def noq (l : L8) : Bool := l.all fun c => !isQ c
def scw (t : L8) : L8 := if plainB t && noq t then t else dblL t
def keyw (k : L8) : L8 := if k = [60, 60] then dblL k else scw k
def shrt : Nd → Bool | .mk k _ _ ds => decide (k < 2) || decide (ds = [])
def scal : Nd → L8
 | .mk k t _ _ => if k = 0 then [110, 117, 108, 108] else if k = 1 then scw t else if k = 2 then [91, 93] else [123, 125]
theorem plain_facts {t : L8} (h : plainB t = true) : bad3 t = false ∧ t ≠ [] ∧ refH t = true ∧ ∀ i, i < t.length → refI t i = true := by
 unfold plainB at h
 by_cases hb : bad3 t = true
 ·rw [if_pos hb] at h; cases h
 ·rw [if_neg hb] at h
  have hb' : bad3 t = false := by simpa using hb
  have h0 : t ≠ [] := fun e => by rw [e] at hb'; cases hb'
  exact ⟨hb', h0, (plain_to h0 (every_iff.1 h)).1, (plain_to h0 (every_iff.1 h)).2⟩
theorem plain_head {t : L8} (h : plainB t = true) : t.getD 0 0 ≠ 32 ∧ t.getD (t.length - 1) 0 ≠ 32 ∧ has firsts (t.getD 0 0) = false ∧ ¬ (t.getD 0 0 = 45 ∧ (t.length = 1 ∨ t.getD 1 0 = 32)) := by
 have h1 := (plain_facts h).2.2.1
 unfold refH at h1
 simp only [Bool.and_eq_true, Bool.not_eq_true'] at h1
 obtain ⟨⟨⟨a, b⟩, c⟩, d⟩ := h1
 refine ⟨by simpa [isC] using a, by simpa [isC] using b, c, fun ⟨x, y⟩ => ?_⟩
 rw [Bool.and_eq_false_iff] at d
 rcases d with d | d
 ·exact (by simpa [isC] using d : ¬ _) x
 ·rw [Bool.or_eq_false_iff] at d
  rcases y with y | y
  ·exact of_decide_eq_false d.1 y
  ·exact (by simpa [isC] using d.2 : ¬ _) y
theorem plain_at {t : L8} (h : plainB t = true) {i : Nat} (hi : i < t.length) : good (t.getD i 0) = true ∧ ¬ (t.getD i 0 = 58 ∧ (i + 1 = t.length ∨ t.getD (i + 1) 0 = 32)) ∧ ¬ (t.getD i 0 = 35 ∧ 0 < i ∧ t.getD (i - 1) 0 = 32) := by
 have h1 := (plain_facts h).2.2.2 i hi
 unfold refI at h1
 simp only [Bool.and_eq_true, Bool.not_eq_true'] at h1
 obtain ⟨⟨a, b⟩, c⟩ := h1
 refine ⟨a, fun ⟨x, y⟩ => ?_, fun ⟨x, y, z⟩ => ?_⟩
 ·rw [Bool.and_eq_false_iff] at b
  rcases b with b | b
  ·exact (by simpa [isC] using b : ¬ _) x
  ·rw [Bool.or_eq_false_iff] at b
   rcases y with y | y
   ·exact of_decide_eq_false b.1 y
   ·exact (by simpa [isC] using b.2 : ¬ _) y
 ·rw [Bool.and_eq_false_iff, Bool.and_eq_false_iff] at c
  rcases c with (c | c) | c
  ·exact (by simpa [isC] using c : ¬ _) x
  ·exact of_decide_eq_false c y
  ·exact (by simpa [isC] using c : ¬ _) z
theorem noq_at {t : L8} (h : noq t = true) {i : Nat} (hi : i < t.length) : isQ (t.getD i 0) = false := by
 unfold noq at h
 rw [List.all_eq_true] at h
 have := h (t.getD i 0) (by rw [List.getD_eq_getElem?_getD, List.getElem?_eq_getElem hi]; exact List.getElem_mem hi)
 simpa using this
theorem getD_app {t u : L8} {i : Nat} (hi : i < t.length) : (t ++ u).getD i 0 = t.getD i 0 := by
 rw [List.getD_eq_getElem?_getD, List.getD_eq_getElem?_getD, List.getElem?_append_left hi]
theorem getD_app2 {t u : L8} {i : Nat} : (t ++ u).getD (t.length + i) 0 = u.getD i 0 := by
 rw [List.getD_eq_getElem?_getD, List.getD_eq_getElem?_getD, List.getElem?_append_right (by omega), Nat.add_sub_cancel_left]
theorem headD_getD (l : L8) : l.headD 0 = l.getD 0 0 := by cases l <;> rfl
theorem first_not {t : L8} (h : plainB t = true) (hq : noq t = true) : t.headD 0 ≠ 91 ∧ t.headD 0 ≠ 123 ∧ isQ (t.headD 0) = false ∧ t.headD 0 ≠ 35 ∧ t.headD 0 ≠ 32 := by
 obtain ⟨h1, h2, h3, h4⟩ := plain_head h
 have hp := List.length_pos_iff.2 (plain_facts h).2.1
 rw [headD_getD]
 refine ⟨fun e => ?_, fun e => ?_, noq_at hq hp, fun e => ?_, h1⟩ <;> rw [e] at h3 <;> revert h3 <;> decide
theorem hyp_plain {t : L8} (h : plainB t = true) (u : L8) (hu : u = [] ∨ u.headD 0 ≠ 32) : hyp (t ++ u) = false := by
 obtain ⟨h1, h2, h3, h4⟩ := plain_head h
 have hp := List.length_pos_iff.2 (plain_facts h).2.1
 unfold hyp
 rw [headD_getD, getD_app hp]
 by_cases h45 : t.getD 0 0 = 45
 ·have hl : t.length ≠ 1 := fun e => h4 ⟨h45, .inl e⟩
  have h32 : t.getD 1 0 ≠ 32 := fun e => h4 ⟨h45, .inr e⟩
  rw [getD_app (show 1 < t.length by omega), decide_eq_false h32, decide_eq_false (show ¬ (t ++ u).length = 1 by rw [List.length_append]; omega)]
  simp
 ·rw [decide_eq_false h45]; rfl
theorem mrk_plain {t : L8} (h : plainB t = true) (u : L8) {i : Nat} (hi : i < t.length) : mrk (t ++ u) i = false := by
 obtain ⟨_, h2, _⟩ := plain_at h hi
 unfold mrk
 rw [getD_app hi]
 by_cases h58 : t.getD i 0 = 58
 ·have hl : i + 1 ≠ t.length := fun e => h2 ⟨h58, .inl e⟩
  have h32 : t.getD (i + 1) 0 ≠ 32 := fun e => h2 ⟨h58, .inr e⟩
  rw [getD_app (show i + 1 < t.length by omega), decide_eq_false h32, decide_eq_false (show ¬ i + 1 = (t ++ u).length by rw [List.length_append]; omega)]
  simp
 ·rw [decide_eq_false h58]; rfl
theorem fst_run {l : L8} {m : Nat} (hm : m < l.length) (h1 : mrk l m = true) : ∀ (n k : Nat), k + n = m → (∀ i, k ≤ i → i < m → mrk l i = false) → fstM l k = some m
 | 0, k, h, _ => by
  obtain rfl : k = m := by omega
  rw [fstM, dif_pos hm, if_pos h1]
 | n + 1, k, h, h2 => by
  rw [fstM, dif_pos (by omega), if_neg (by rw [h2 k (Nat.le_refl _) (by omega)]; decide)]
  exact fst_run hm h1 n (k + 1) (by omega) fun i hi => h2 i (by omega)
theorem fst_first {l : L8} {m : Nat} (hm : m < l.length) (h1 : mrk l m = true) (h2 : ∀ i, i < m → mrk l i = false) : fstM l 0 = some m := fst_run hm h1 m 0 (Nat.zero_add _) fun i _ => h2 i
theorem fst_out {l : L8} (h2 : ∀ i, i < l.length → mrk l i = false) : ∀ (n k : Nat), l.length - k ≤ n → fstM l k = none
 | 0, k, h => by rw [fstM, dif_neg (by omega)]
 | n + 1, k, h => by
  by_cases hk : k < l.length
  ·rw [fstM, dif_pos hk, if_neg (by rw [h2 k hk]; decide)]
   exact fst_out h2 n (k + 1) (by omega)
  ·rw [fstM, dif_neg hk]
theorem fst_none {l : L8} (h2 : ∀ i, i < l.length → mrk l i = false) : fstM l 0 = none := fst_out h2 _ 0 (Nat.le_refl _)
theorem dbl_head (t u : L8) : (dblL t ++ u).headD 0 = 34 := rfl
theorem hyp_dbl (t u : L8) : hyp (dblL t ++ u) = false := rfl
theorem scw_line (t : L8) : hyp (scw t) = false ∧ entP (scw t) = some none ∧ (scw t).headD 0 ≠ 91 ∧ (scw t).headD 0 ≠ 123 ∧ (scw t).headD 0 ≠ 32 ∧ (scw t).headD 0 ≠ 35 ∧ scw t ≠ [] := by
 unfold scw
 by_cases hp : (plainB t && noq t) = true
 ·rw [if_pos hp]
  rw [Bool.and_eq_true] at hp
  obtain ⟨h1, h2⟩ := hp
  obtain ⟨f1, f2, f3, f4, f5⟩ := first_not h1 h2
  have hh : hyp t = false := by have := hyp_plain h1 [] (.inl rfl); rwa [List.append_nil] at this
  have h0 := (plain_facts h1).2.1
  have hn : fstM t 0 = none := fst_none fun i hi => by have := mrk_plain h1 [] hi; rwa [List.append_nil] at this
  refine ⟨hh, ?_, f1, f2, f5, f4, h0⟩
  unfold entP
  rw [decide_eq_false h0, hh, decide_eq_false f1, decide_eq_false f2, f3, hn]; rfl
 ·rw [if_neg hp]
  have hd : dblL t = dblL t ++ [] := (List.append_nil _).symm
  refine ⟨rfl, ?_, by rw [hd, dbl_head]; decide, by rw [hd, dbl_head]; decide, by rw [hd, dbl_head]; decide, by rw [hd, dbl_head]; decide, by unfold dblL; simp⟩
  have hs : scnP (dblL t) = some (t, (dblL t).length) := by rw [hd, scn_dbl, List.append_nil]
  unfold entP
  rw [decide_eq_false (by unfold dblL; simp : ¬ dblL t = []), show hyp (dblL t) = false from rfl, show (dblL t).headD 0 = 34 from rfl, show isQ 34 = true from rfl, hs]
  show (if mrk (dblL t) (dblL t).length = true then _ else some none) = some none
  rw [if_neg]
  unfold mrk
  rw [List.getD_eq_getElem?_getD, List.getElem?_eq_none (Nat.le_refl _), show (decide ((none : Option UInt8).getD 0 = 58)) = false from rfl]
  simp
theorem scl_scw (t : L8) : sclS false (scw t) = some (txt t) := by
 unfold scw
 by_cases hp : (plainB t && noq t) = true
 ·rw [if_pos hp]
  rw [Bool.and_eq_true] at hp
  obtain ⟨h1, h2⟩ := hp
  obtain ⟨f1, f2, f3, f4, f5⟩ := first_not h1 h2
  unfold sclS
  rw [(plain_facts h1).1, f3]
  show (if plainB t = true then some (txt t) else none) = _
  rw [if_pos h1]
 ·rw [if_neg hp]
  have hd : dblL t = dblL t ++ [] := (List.append_nil _).symm
  have hs : scnP (dblL t) = some (t, (dblL t).length) := by rw [hd, scn_dbl, List.append_nil]
  unfold sclS
  rw [show bad3 (dblL t) = false by unfold bad3 dblL; cases ht : escL t ++ [34] <;> simp [ht], show (dblL t).headD 0 = 34 from rfl, show isQ 34 = true from rfl, hs]
  show (if (true && decide (some (dblL t).length = some (dblL t).length)) = true then some (txt t) else _) = _
  rw [decide_eq_true rfl]; rfl
theorem ent_key (k u : L8) (hu : u = [] ∨ ∃ c v, u = 32 :: c :: v ∧ c ≠ 32) : entP (keyw k ++ 58 :: u) = some (some (k, u.drop 1)) := by
 have hb : ∀ m : Nat, ∀ l : L8, l.length = m → bhd (l ++ 58 :: u) m = u.drop 1 := by
  intro m l hm
  unfold bhd
  have e : (l ++ 58 :: u).drop (m + 1) = u := by rw [List.drop_append, List.drop_of_length_le (by omega), List.nil_append, hm, show m + 1 - m = 1 by omega]; rfl
  rw [e, ← List.drop_drop, e]
  rcases hu with rfl | ⟨c, v, rfl, hc⟩
  ·rfl
  ·rw [show blk (32 :: c :: v) = 1 by show (if (32 : UInt8) = 32 then blk (c :: v) + 1 else 0) = 1; rw [if_pos rfl, blk_no hc]]
 have hm : ∀ l : L8, mrk (l ++ 58 :: u) l.length = true := by
  intro l
  unfold mrk
  rw [show (l ++ 58 :: u).getD l.length 0 = 58 from getD_app2 (i := 0), show (l ++ 58 :: u).getD (l.length + 1) 0 = u.getD 0 0 from getD_app2 (i := 1)]
  rcases hu with rfl | ⟨c, v, rfl, hc⟩
  ·simp
  ·simp
 have hdbl : ∀ t : L8, entP (dblL t ++ 58 :: u) = some (some (t, u.drop 1)) := by
  intro t
  unfold entP
  rw [decide_eq_false (by unfold dblL; simp : ¬ dblL t ++ 58 :: u = []), hyp_dbl, dbl_head, show isQ 34 = true from rfl, scn_dbl]
  show (if mrk (dblL t ++ 58 :: u) (dblL t).length = true then some (some (t, bhd (dblL t ++ 58 :: u) (dblL t).length)) else some none) = _
  rw [if_pos (hm _), hb _ _ rfl]
 unfold keyw
 by_cases hk : k = [60, 60]
 ·rw [if_pos hk]; exact hdbl k
 rw [if_neg hk]
 unfold scw
 by_cases hp : (plainB k && noq k) = true
 ·rw [if_pos hp]
  rw [Bool.and_eq_true] at hp
  obtain ⟨h1, h2⟩ := hp
  obtain ⟨f1, f2, f3, f4, f5⟩ := first_not h1 h2
  have hpos := List.length_pos_iff.2 (plain_facts h1).2.1
  have hh : (k ++ 58 :: u).headD 0 = k.headD 0 := by rw [headD_getD, headD_getD, getD_app hpos]
  have hf : fstM (k ++ 58 :: u) 0 = some k.length := fst_first (by rw [List.length_append, List.length_cons]; omega) (hm k) fun i hi => mrk_plain h1 _ hi
  unfold entP
  rw [decide_eq_false (by simp : ¬ k ++ 58 :: u = []), hyp_plain h1 (58 :: u) (.inr (show (58 : UInt8) ≠ 32 by decide)), hh, decide_eq_false f1, decide_eq_false f2, f3, hf]
  show (if (plainB ((k ++ 58 :: u).take k.length) && !decide ((k ++ 58 :: u).take k.length = [60, 60])) = true then some (some ((k ++ 58 :: u).take k.length, bhd (k ++ 58 :: u) k.length)) else none) = _
  rw [List.take_left, h1, decide_eq_false hk, hb _ _ rfl]; rfl
 ·rw [if_neg hp]; exact hdbl k
end E11
end Go.Proofs.YtmdgpejedbkkdaaGreatDoor
namespace Go.Proofs.YtmdgpejedbkkdaaGreatDoor
namespace E11
open Nw N8 Q6 F9 B10
def dash (p : Nat) : List (Nat × L8) → List (Nat × L8)
 | [] => []
 | x :: l => (p, 45 :: 32 :: x.2) :: l
mutual
def rws : Nd → Nat → List (Nat × L8)
 | .mk k _ ks ds, p => if k = 2 then rwS ds p else rwM ks ds p
def rwS : List Nd → Nat → List (Nat × L8)
 | [], _ => []
 | d :: ds, p => (if shrt d then [(p, 45 :: 32 :: scal d)] else dash p (rws d (p + 2))) ++ rwS ds p
def rwM : List L8 → List Nd → Nat → List (Nat × L8)
 | k :: ks, d :: ds, p => (if shrt d then [(p, keyw k ++ 58 :: 32 :: scal d)] else (p, keyw k ++ [58]) :: rws d (p + 2)) ++ rwM ks ds p
 | _, _, _ => []
end
def pr (x : Ln) : Nat × L8 := (x.ind, x.text)
theorem ok_empty {k : Int} (h : k = 2 ∨ k = 3) : Fine (.mk k [] [] []) := by
 rcases h with rfl | rfl
 ·exact .mk (by decide) (by decide) (by decide) (fun h => by cases h) (fun d h => by cases h)
 ·exact .mk (by decide) (by decide) (by decide) (fun h => ⟨rfl, sort_once once_nil⟩) (fun d h => by cases h)
theorem scal_facts {d : Nd} (hf : Fine d) (hs : shrt d = true) : hyp (scal d) = false ∧ entP (scal d) = some none ∧ (∀ no, valL (scal d) no = .ok d 1) ∧ (scal d).headD 0 ≠ 32 ∧ scal d ≠ [] := by
 obtain ⟨k, t, ks, ds⟩ := d
 obtain ⟨⟨h0, h3⟩, ht, hk, hd, hfd⟩ := fine_in hf
 have hds : ds = [] := by
  unfold shrt at hs
  rw [Bool.or_eq_true] at hs
  rcases hs with h | h
  ·exact hd (of_decide_eq_true h)
  ·exact of_decide_eq_true h
 subst hds
 by_cases e0 : k = 0
 ·subst e0
  rw [ht (by decide), hk (by decide)]
  refine ⟨rfl, ?_, fun no => ?_, by decide, by decide⟩
  ·have hn : fstM [110, 117, 108, 108] 0 = none := fst_none (by decide)
   show entP [110, 117, 108, 108] = _
   unfold entP
   rw [hn]; rfl
  ·rfl
 by_cases e1 : k = 1
 ·subst e1
  rw [hk (by decide)]
  obtain ⟨a1, a2, a3, a4, a5, a6, a7⟩ := scw_line t
  refine ⟨a1, a2, fun no => ?_, a5, a7⟩
  show valL (scw t) no = _
  unfold valL
  rw [decide_eq_false a3, decide_eq_false a4, scl_scw]; rfl
 have e23 : k = 2 ∨ k = 3 := by omega
 have hff := ok_empty e23
 have hpar : ∀ l : L8, wrT (.mk k [] [] []) = l → parP l = some (.mk k [] [] []) := by
  intro l hl
  have := parP_back hff 0 0
  rw [hl] at this
  have e : spc 0 = [] := rfl
  rwa [e, List.append_nil, List.nil_append] at this
 have hok : okT 2000 (.mk k [] [] []) = true := ok_iff.2 ⟨hff, by rw [cntT, cntL]; decide, by rw [depT, depL]; decide⟩
 rcases e23 with rfl | rfl
 ·rw [ht (by decide), hk (by decide)]
  refine ⟨rfl, rfl, fun no => ?_, by decide, by decide⟩
  show valL [91, 93] no = _
  unfold valL
  rw [hpar [91, 93] rfl, ← (par_yes hok).1, ← (par_yes hok).2]; rfl
 ·have hks : ks = [] := by
   cases hf with
   | mk a b c dd e => exact List.length_eq_zero_iff.1 (dd rfl).1
  rw [ht (by decide), hks]
  refine ⟨rfl, rfl, fun no => ?_, by decide, by decide⟩
  show valL [123, 125] no = _
  unfold valL
  rw [hpar [123, 125] rfl, ← (par_yes hok).1, ← (par_yes hok).2]; rfl
end E11
end Go.Proofs.YtmdgpejedbkkdaaGreatDoor
namespace Go.Proofs.YtmdgpejedbkkdaaGreatDoor
namespace E11
open Nw N8 Q6 F9 B10
def Say (t : L8) : Prop := ∀ a b : L8, prevB (a ++ t ++ b) a.length = 32 → endAt (a ++ t ++ b) a.length = endAt (a ++ t ++ b) (a.length + t.length)
theorem getD_mid {a t b : L8} {i : Nat} (hi : i < t.length) : (a ++ t ++ b).getD (a.length + i) 0 = t.getD i 0 := by
 rw [List.append_assoc, getD_app2, getD_app hi]
theorem raw_steps {a t b : L8} (hg : ∀ i, i < t.length → good (t.getD i 0) = true ∧ isQ (t.getD i 0) = false ∧ ¬ (t.getD i 0 = 35 ∧ (i = 0 ∨ t.getD (i - 1) 0 = 32))) :
  ∀ (n i : Nat), i + n = t.length → endAt (a ++ t ++ b) (a.length + i) = endAt (a ++ t ++ b) (a.length + t.length)
 | 0, i, h => by rw [show i = t.length by omega]
 | n + 1, i, h => by
  have hi : i < t.length := by omega
  obtain ⟨h1, h2, h3⟩ := hg i hi
  have e := getD_mid (a := a) (b := b) hi
  have hb : begK (a ++ t ++ b) (a.length + i) = 0 := by
   unfold begK
   rw [e, if_neg, if_neg]
   ·rintro ⟨hq, _⟩
    unfold isQ at h2
    rw [Bool.or_eq_false_iff] at h2
    rcases hq with hq | hq
    ·exact of_decide_eq_false h2.1 hq
    ·exact of_decide_eq_false h2.2 hq
   ·rintro ⟨hq, hp⟩
    refine h3 ⟨hq, ?_⟩
    by_cases h0 : i = 0
    ·exact .inl h0
    ·right
     unfold prevB at hp
     rw [if_neg (by omega), show a.length + i - 1 = a.length + (i - 1) by omega, getD_mid (by omega)] at hp
     exact hp
  rw [endAt_next (by rw [List.length_append, List.length_append]; omega) hb (by rw [e]; exact h1), Nat.add_assoc]
  exact raw_steps hg n (i + 1) (by omega)
theorem say_raw {t : L8} (hg : ∀ i, i < t.length → good (t.getD i 0) = true ∧ isQ (t.getD i 0) = false ∧ ¬ (t.getD i 0 = 35 ∧ (i = 0 ∨ t.getD (i - 1) 0 = 32))) : Say t := fun a b _ => raw_steps hg t.length 0 (Nat.zero_add _)
theorem say_plain {t : L8} (h : plainB t = true) (hq : noq t = true) : Say t := say_raw fun i hi => by
 obtain ⟨h1, h2, h3⟩ := plain_at h hi
 refine ⟨h1, noq_at hq hi, fun ⟨h4, h5⟩ => ?_⟩
 rcases h5 with rfl | h5
 ·have := (first_not h hq).2.2.2.1
  rw [headD_getD] at this; exact this h4
 ·by_cases h0 : 0 < i
  ·exact h3 ⟨h4, h0, h5⟩
  ·obtain rfl : i = 0 := by omega
   have := (first_not h hq).2.2.2.1
   rw [headD_getD] at this; exact this h4
theorem dbl_len1 (t : L8) : (dblL t).length = (escL t).length + 2 := by unfold dblL; simp
theorem say_dbl (t : L8) : Say (dblL t) := by
 intro a b hp
 have e0 : (a ++ dblL t ++ b).getD a.length 0 = 34 := by
  have := getD_mid (a := a) (t := dblL t) (b := b) (i := 0) (by rw [dbl_len1]; omega)
  rw [Nat.add_zero] at this; rw [this]; rfl
 have hb : begK (a ++ dblL t ++ b) a.length = 1 := by
  unfold begK
  rw [e0, hp]; decide
 have hd : (a ++ dblL t ++ b).drop (a.length + 1) = escL t ++ 34 :: b := by
  rw [List.append_assoc, List.drop_append, List.drop_of_length_le (Nat.le_succ _), List.nil_append, show a.length + 1 - a.length = 1 by omega]
  unfold dblL; simp
 have hq : isQuote (a ++ dblL t ++ b) (a.length : Int) = true := by
  unfold isQuote
  rw [Int.toNat_natCast, e0]
  have h1 : (a.length : Int) < ((a ++ dblL t ++ b).length : Int) := by rw [List.length_append, List.length_append, dbl_len1]; omega
  rw [decide_eq_true (by omega : (0 : Int) ≤ (a.length : Int)), decide_eq_true h1]; rfl
 have hs : scanR (a ++ dblL t ++ b) a.length = some (t, a.length + (dblL t).length) := by
  unfold scanR
  rw [if_pos e0]
  unfold atD
  rw [hd, scD_esc]
  show some ([] ++ t, a.length + 1 + ((escL t).length + 1)) = _
  rw [List.nil_append, dbl_len1, show a.length + 1 + ((escL t).length + 1) = a.length + ((escL t).length + 2) by omega]
 have hE : scanE (a ++ dblL t ++ b) (a.length : Int) = 0 := by unfold scanE; rw [hq, Int.toNat_natCast, hs]; rfl
 have hN : scanN (a ++ dblL t ++ b) (a.length : Int) = ((a.length + (dblL t).length : Nat) : Int) := by unfold scanN; rw [hq, Int.toNat_natCast, hs]; rfl
 exact endAt_quote (by rw [List.length_append, List.length_append, dbl_len1]; omega) hb hE hN (by rw [dbl_len1]; omega)
theorem say_scw (t : L8) : Say (scw t) := by
 unfold scw
 by_cases hp : (plainB t && noq t) = true
 ·rw [if_pos hp]; rw [Bool.and_eq_true] at hp; exact say_plain hp.1 hp.2
 ·rw [if_neg hp]; exact say_dbl t
theorem say_app {s t : L8} (hs : Say s) (ht : Say t) (h0 : s ≠ []) (hl : s.getD (s.length - 1) 0 = 32) : Say (s ++ t) := by
 intro a b hp
 have hpos := List.length_pos_iff.2 h0
 have e : a ++ (s ++ t) ++ b = a ++ s ++ (t ++ b) := by simp
 have e2 : a ++ (s ++ t) ++ b = (a ++ s) ++ t ++ b := by simp
 rw [e] at hp
 have h1 := hs a (t ++ b) hp
 have hp2 : prevB ((a ++ s) ++ t ++ b) (a ++ s).length = 32 := by
  unfold prevB
  rw [if_neg (by rw [List.length_append]; omega), ← e2, e, List.length_append, show a.length + s.length - 1 = a.length + (s.length - 1) by omega, getD_mid (by omega), hl]
 have h2 := ht (a ++ s) b hp2
 rw [← e, ← List.length_append] at h1
 rw [← e2, List.length_append] at h2
 rw [List.length_append] at h1
 rw [h1, h2, List.length_append, Nat.add_assoc]
theorem say_more {s t : L8} (hs : Say s) (ht : ∀ a b : L8, endAt (a ++ t ++ b) a.length = endAt (a ++ t ++ b) (a.length + t.length)) : Say (s ++ t) := by
 intro a b hp
 have e : a ++ (s ++ t) ++ b = a ++ s ++ (t ++ b) := by simp
 have e2 : a ++ (s ++ t) ++ b = (a ++ s) ++ t ++ b := by simp
 rw [e] at hp
 have h1 := hs a (t ++ b) hp
 have h2 := ht (a ++ s) b
 rw [← e] at h1
 rw [← e2, List.length_append] at h2
 rw [h1, h2, List.length_append, Nat.add_assoc]
theorem raw_dash : ∀ a b : L8, endAt (a ++ [45, 32] ++ b) a.length = endAt (a ++ [45, 32] ++ b) (a.length + 2) := fun a b => raw_steps (t := [45, 32]) (by decide) 2 0 rfl
theorem raw_colon : ∀ a b : L8, endAt (a ++ [58] ++ b) a.length = endAt (a ++ [58] ++ b) (a.length + 1) := fun a b => raw_steps (t := [58]) (by decide) 1 0 rfl
theorem raw_colon2 : ∀ a b : L8, endAt (a ++ [58, 32] ++ b) a.length = endAt (a ++ [58, 32] ++ b) (a.length + 2) := fun a b => raw_steps (t := [58, 32]) (by decide) 2 0 rfl
structure LineOK (u : L8) : Prop where
 ne : u ≠ []
 no10 : ∀ c ∈ u, c ≠ 10
 first : u.headD 0 ≠ 32 ∧ u.headD 0 ≠ 35
 last : u.getD (u.length - 1) 0 ≠ 32
 say : Say u
theorem good10 {c : UInt8} (h : good c = true) : c ≠ 10 := good_not10 h
theorem dg_10 (n : Nat) (h : n < 16) : dg n ≠ 10 := by
 intro e
 have := dg_nat n h
 rw [e] at this
 split at this
 ·have h1 : (10 : UInt8).toNat = 10 := rfl
  omega
 ·have h1 : (10 : UInt8).toNat = 10 := rfl
  omega
theorem esc_10 (c : UInt8) : ∀ x ∈ esc c, x ≠ 10 := by
 intro x hx
 unfold esc at hx
 split at hx
 ·rename_i h
  simp only [List.mem_cons, List.not_mem_nil, or_false] at hx
  rcases hx with rfl | rfl
  ·decide
  ·rcases h with rfl | rfl <;> decide
 ·split at hx
  ·simp only [List.mem_cons, List.not_mem_nil, or_false] at hx
   rcases hx with rfl | rfl <;> decide
  ·split at hx
   ·simp only [List.mem_cons, List.not_mem_nil, or_false] at hx
    rcases hx with rfl | rfl <;> decide
   ·split at hx
    ·rename_i h
     simp only [List.mem_cons, List.not_mem_nil, or_false] at hx
     rw [hx]; exact good10 h
    ·simp only [List.mem_cons, List.not_mem_nil, or_false] at hx
     have := c.toNat_lt
     rcases hx with rfl | rfl | rfl | rfl
     ·decide
     ·decide
     ·exact dg_10 _ (by omega)
     ·exact dg_10 _ (by omega)
theorem dbl_10 (t : L8) : ∀ x ∈ dblL t, x ≠ 10 := by
 intro x hx
 unfold dblL escL at hx
 rcases List.mem_append.1 hx with hx | hx
 ·rcases List.mem_cons.1 hx with rfl | hx
  ·decide
  ·obtain ⟨l, hl, hx⟩ := List.mem_flatten.1 hx
   obtain ⟨c, _, rfl⟩ := List.mem_map.1 hl
   exact esc_10 c x hx
 ·rw [List.mem_singleton.1 hx]; decide
theorem dbl_last (t : L8) : (dblL t).getD ((dblL t).length - 1) 0 = 34 := by
 have e : dblL t = (34 :: escL t) ++ [34] := rfl
 have hl : (dblL t).length - 1 = (34 :: escL t).length + 0 := by rw [dbl_len1]; rfl
 rw [hl, e, getD_app2]; rfl
theorem plain_10 {t : L8} (h : plainB t = true) : ∀ c ∈ t, c ≠ 10 := by
 intro c hc
 obtain ⟨i, hi, rfl⟩ := List.mem_iff_getElem.1 hc
 have := (plain_at h hi).1
 rw [List.getD_eq_getElem?_getD, List.getElem?_eq_getElem hi] at this
 exact good10 this
theorem ok_scw (t : L8) : LineOK (scw t) := by
 obtain ⟨_, _, _, _, h5, h6, h7⟩ := scw_line t
 refine ⟨h7, ?_, ⟨h5, h6⟩, ?_, say_scw t⟩
 ·unfold scw
  by_cases hp : (plainB t && noq t) = true
  ·rw [if_pos hp]; rw [Bool.and_eq_true] at hp; exact plain_10 hp.1
  ·rw [if_neg hp]; exact dbl_10 t
 ·unfold scw
  by_cases hp : (plainB t && noq t) = true
  ·rw [if_pos hp]; rw [Bool.and_eq_true] at hp; exact (plain_head hp.1).2.1
  ·rw [if_neg hp, dbl_last]; decide
theorem ok_keyw (k : L8) : LineOK (keyw k) := by
 unfold keyw
 by_cases h : k = [60, 60]
 ·rw [if_pos h]
  exact ⟨by unfold dblL; simp, dbl_10 k, ⟨show (34 : UInt8) ≠ 32 by decide, show (34 : UInt8) ≠ 35 by decide⟩, by rw [dbl_last]; decide, say_dbl k⟩
 ·rw [if_neg h]; exact ok_scw k
theorem ok_null : LineOK [110, 117, 108, 108] := ⟨by decide, by decide, by decide, by decide, say_raw (by decide)⟩
theorem ok_seq0 : LineOK [91, 93] := ⟨by decide, by decide, by decide, by decide, say_raw (by decide)⟩
theorem ok_map0 : LineOK [123, 125] := ⟨by decide, by decide, by decide, by decide, say_raw (by decide)⟩
theorem ok_scal (d : Nd) : LineOK (scal d) := by
 obtain ⟨k, t, ks, ds⟩ := d
 show LineOK (if k = 0 then [110, 117, 108, 108] else if k = 1 then scw t else if k = 2 then [91, 93] else [123, 125])
 by_cases h0 : k = 0
 ·rw [if_pos h0]; exact ok_null
 rw [if_neg h0]
 by_cases h1 : k = 1
 ·rw [if_pos h1]; exact ok_scw t
 rw [if_neg h1]
 by_cases h2 : k = 2
 ·rw [if_pos h2]; exact ok_seq0
 rw [if_neg h2]; exact ok_map0
theorem two_10 {a b c : UInt8} (h : c ∈ [a, b]) (ha : a ≠ 10) (hb : b ≠ 10) : c ≠ 10 := by
 simp only [List.mem_cons, List.not_mem_nil, or_false] at h
 rcases h with rfl | rfl
 ·exact ha
 ·exact hb
theorem last_app {s t : L8} (h : t ≠ []) : (s ++ t).getD ((s ++ t).length - 1) 0 = t.getD (t.length - 1) 0 := by
 have := List.length_pos_iff.2 h
 rw [List.length_append, show s.length + t.length - 1 = s.length + (t.length - 1) by omega, getD_app2]
theorem head_app {s t : L8} (h : s ≠ []) : (s ++ t).headD 0 = s.headD 0 := by
 cases s with
 | nil => exact absurd rfl h
 | cons c s => rfl
theorem ok_dash {u : L8} (h : LineOK u) : LineOK (45 :: 32 :: u) := by
 have e : 45 :: 32 :: u = [45, 32] ++ u := rfl
 refine ⟨by simp, ?_, ⟨show (45 : UInt8) ≠ 32 by decide, show (45 : UInt8) ≠ 35 by decide⟩, ?_, ?_⟩
 ·intro c hc
  rw [e] at hc
  rcases List.mem_append.1 hc with hc | hc
  ·exact two_10 hc (by decide) (by decide)
  ·exact h.no10 c hc
 ·rw [e, last_app h.ne]; exact h.last
 ·rw [e]; exact say_app (fun a b _ => raw_dash a b) h.say (by decide) rfl
theorem ok_key1 (k : L8) : LineOK (keyw k ++ [58]) := by
 have h := ok_keyw k
 refine ⟨by simp, ?_, by rw [head_app h.ne]; exact h.first, by rw [last_app (by decide)]; decide, say_more h.say raw_colon⟩
 intro c hc
 rcases List.mem_append.1 hc with hc | hc
 ·exact h.no10 c hc
 ·rw [List.mem_singleton.1 hc]; decide
theorem ok_key2 (k : L8) {u : L8} (hu : LineOK u) : LineOK (keyw k ++ 58 :: 32 :: u) := by
 have h := ok_keyw k
 have e : keyw k ++ 58 :: 32 :: u = (keyw k ++ [58, 32]) ++ u := by simp
 refine ⟨by simp, ?_, by rw [head_app h.ne]; exact h.first, ?_, ?_⟩
 ·intro c hc
  rw [e] at hc
  rcases List.mem_append.1 hc with hc | hc
  ·rcases List.mem_append.1 hc with hc | hc
   ·exact h.no10 c hc
   ·exact two_10 hc (by decide) (by decide)
  ·exact hu.no10 c hc
 ·rw [e, last_app hu.ne]; exact hu.last
 ·rw [e]; exact say_app (say_more h.say raw_colon2) hu.say (by simp) (by rw [last_app (by decide)]; rfl)
end E11
end Go.Proofs.YtmdgpejedbkkdaaGreatDoor
