/- EnvStr -/
import Derived.Lib.IndexMore
import Derived.Lib.SplitLaws
import Derived.Lib.TrimByte
import Derived.Test.YtgdejjkiiaodkaaGreatDoorOT11
import Derived.Test.YtgdejjkiiaodkaaGreatDoorOT20
set_option linter.unusedVariables false
set_option linter.unusedSimpArgs false
set_option maxRecDepth 100000
set_option maxHeartbeats 16000000
namespace Go.Proofs.YtgdejjkiiaodkaaGreatDoor
namespace V12
open Nw Q6
theorem dropB_lib (l : L8) : Lib.trimLeftB l 32 = dropB l := rfl
theorem dropB_cons (c : UInt8) (t : L8) : dropB (c :: t) = if c = 32 then dropB t else c :: t := by
 unfold dropB
 rw [List.dropWhile_cons]
 by_cases h : c = 32
 ·rw [if_pos h, if_pos (decide_eq_true h)]
 ·rw [if_neg h, if_neg (by rw [decide_eq_false h]; decide)]
theorem dropE_cons (c : UInt8) (t : L8) : dropE (c :: t) = if dropE t = [] ∧ c = 32 then [] else c :: dropE t := by
 unfold dropE dropB
 rw [List.reverse_cons, List.dropWhile_append]
 by_cases h : (List.dropWhile (fun c => decide (c = 32)) t.reverse) = []
 ·rw [h]
  by_cases hc : c = 32
  ·subst hc; rfl
  ·simp [List.dropWhile, hc]
 ·rw [if_neg (by simpa using h), if_neg (fun e => h (List.reverse_eq_nil_iff.1 e.1)), List.reverse_append]; rfl
theorem trim_swap : ∀ l : L8, dropB (dropE l) = dropE (dropB l)
 | [] => rfl
 | c :: t => by
  have ih := trim_swap t
  by_cases hc : c = 32
  ·rw [dropB_cons, if_pos hc, dropE_cons]
   by_cases he : dropE t = []
   ·rw [if_pos ⟨he, hc⟩, ← ih, he]
   ·rw [if_neg fun e => he e.1, dropB_cons, if_pos hc, ih]
  ·rw [dropB_cons, if_neg hc, dropE_cons, if_neg fun e => hc e.2, dropB_cons, if_neg hc]
theorem trimB_lib (l : L8) : Lib.trimB l 32 = trimS l := trim_swap l
def endOk (l : L8) : Prop := ∀ r a, l = r ++ [a] → a ≠ 32
theorem dropB_head : ∀ {l r : L8} {a : UInt8}, dropB l = a :: r → a ≠ 32
 | [], _, _, h => by cases h
 | c :: t, r, a, h => by
  rw [dropB_cons] at h
  split at h
  ·exact dropB_head h
  ·rename_i hc
   cases h
   exact hc
theorem endOk_dropE (l : L8) : endOk (dropE l) := fun r a h => by
 unfold dropE at h
 have h2 : dropB l.reverse = a :: r.reverse := by
  have := congrArg List.reverse h
  rwa [List.reverse_reverse, List.reverse_append] at this
 exact dropB_head h2
theorem endOk_trim (l : L8) : endOk (trimS l) := endOk_dropE _
theorem endOk_suffix {l t : L8} (h : endOk l) (ht : t <:+ l) : endOk t := fun r a e => by
 obtain ⟨p, hp⟩ := ht
 exact h (p ++ r) a (by rw [← hp, e, List.append_assoc])
theorem endOk_drop {l : L8} (h : endOk l) (n : Nat) : endOk (l.drop n) := endOk_suffix h (List.drop_suffix n l)
theorem dropB_suffix (l : L8) : dropB l <:+ l := List.dropWhile_suffix _
theorem snoc_cases {l : L8} (h : l ≠ []) : ∃ r a, l = r ++ [a] := ⟨l.dropLast, l.getLast h, (List.dropLast_concat_getLast h).symm⟩
theorem dropE_id {l : L8} (h : endOk l) : dropE l = l := by
 by_cases h0 : l = []
 ·subst h0; rfl
 ·obtain ⟨r, a, e⟩ := snoc_cases h0
  have ha := h r a e
  unfold dropE
  rw [e, List.reverse_append]
  show (dropB (a :: r.reverse)).reverse = _
  rw [dropB_cons, if_neg ha, List.reverse_cons, List.reverse_reverse]
theorem dropB_nil {l : L8} (h : endOk l) : dropB l = [] ↔ l = [] := by
 refine ⟨fun e => ?_, fun e => by rw [e]; rfl⟩
 by_cases h0 : l = []
 ·exact h0
 ·obtain ⟨r, a, hl⟩ := snoc_cases h0
  have ha := h r a hl
  have hd : ∀ (r : L8), dropB (r ++ [a]) ≠ [] := by
   intro r
   induction r with
   | nil => rw [List.nil_append, dropB_cons, if_neg ha]; exact List.cons_ne_nil _ _
   | cons c r ih =>
    rw [List.cons_append, dropB_cons]
    split
    ·exact ih
    ·exact List.cons_ne_nil _ _
  rw [hl] at e
  exact absurd e (hd r)
theorem pre_one (b : UInt8) (l : L8) : Lib.hasPrefix l [b] = decide (l ≠ [] ∧ l.getD 0 0 = b) := by
 unfold Lib.hasPrefix
 cases l with
 | nil => rfl
 | cons c t =>
  show (b == c && ([] : L8).isPrefixOf t) = _
  rw [Bool.eq_iff_iff]
  simp only [Bool.and_eq_true, beq_iff_eq, decide_eq_true_eq]
  constructor
  ·rintro ⟨e, _⟩; exact ⟨List.cons_ne_nil _ _, e.symm⟩
  ·rintro ⟨_, e⟩; exact ⟨Eq.symm e, by simp⟩
def behP (x : L8) : Bool := decide (x = []) || (decide (dropB x ≠ x) && Lib.hasPrefix (dropB x) [35])
theorem behind_prog {l : L8} (h : endOk l) (n : Nat) : behindOk l n = behP (l.drop n) := by
 have hx := endOk_drop h n
 unfold behindOk behP
 simp only []
 generalize l.drop n = x at hx
 rw [Bool.eq_iff_iff, pre_one]
 simp only [decide_eq_true_eq, Bool.or_eq_true, Bool.and_eq_true]
 constructor
 ·rintro (e | ⟨e1, e2⟩)
  ·exact .inl ((dropB_nil hx).1 e)
  ·refine .inr ⟨fun e => by rw [e] at e1; exact Nat.lt_irrefl _ e1, fun e => ?_, e2⟩
   rw [e] at e2; revert e2; decide
 ·rintro (e | ⟨e1, e2, e3⟩)
  ·exact .inl ((dropB_nil hx).2 e)
  ·refine .inr ⟨?_, e3⟩
   rcases Nat.lt_or_ge (dropB x).length x.length with h1 | h1
   ·exact h1
   ·exact absurd ((dropB_suffix x).eq_of_length_le h1) e1
theorem exp_prog {s : L8} (h : endOk s) (hb : dropB s = s) : Lib.trimLeftB (Lib.trimPrefix s expL) 32 = expS s := by
 rw [dropB_lib]
 unfold Lib.trimPrefix expS
 by_cases hp : Lib.hasPrefix s expL = true
 ·rw [if_pos hp]
  unfold Lib.hasPrefix at hp
  rw [List.isPrefixOf_iff_prefix] at hp
  have ht : s.take 7 = expL := by
   have := List.prefix_iff_eq_take.1 hp
   exact this.symm
  have hl : 7 < s.length := by
   have h7 := hp.length_le
   have h7' : 7 ≤ s.length := h7
   rcases Nat.lt_or_ge 7 s.length with h1 | h1
   ·exact h1
   ·have e : s = expL := by rw [← ht, List.take_of_length_le h1]
    exact absurd rfl (h [101, 120, 112, 111, 114, 116] 32 e)
  rw [if_pos ⟨hl, ht⟩]
  have hd : endOk (dropB (s.drop 7)) := endOk_suffix (endOk_drop h 7) (dropB_suffix _)
  exact (dropE_id hd).symm
 ·rw [if_neg hp, hb, if_neg]
  rintro ⟨h1, h2⟩
  apply hp
  unfold Lib.hasPrefix
  rw [List.isPrefixOf_iff_prefix, ← h2]
  exact List.take_prefix 7 s
theorem endOk_exp {s : L8} (h : endOk s) : endOk (expS s) := by
 unfold expS
 split
 ·exact endOk_trim _
 ·exact h
theorem index_one12 (b : UInt8) : ∀ s : L8, Lib.index s [b] = if befN b s < s.length then (befN b s : Int) else -1
 | [] => rfl
 | c :: t => by
  rw [Lib.index]
  have ep : ([b] : L8).isPrefixOf (c :: t) = decide (c = b) := by
   show (b == c && ([] : L8).isPrefixOf t) = _
   rw [Bool.eq_iff_iff]
   simp only [Bool.and_eq_true, beq_iff_eq, decide_eq_true_eq]
   exact ⟨fun e => e.1.symm, fun e => ⟨e.symm, by simp⟩⟩
  have eb : befN b (c :: t) = if c = b then 0 else befN b t + 1 := rfl
  rw [ep, eb]
  by_cases h : c = b
  ·simp only [decide_eq_true h, if_true, if_pos h, List.length_cons]
   rw [if_pos (Nat.succ_pos _)]; rfl
  ·simp only [decide_eq_false h, Bool.false_eq_true, if_false, if_neg h, List.length_cons]
   rw [index_one12 b t]
   by_cases h2 : befN b t < t.length
   ·have e : ((befN b t : Int) == -1) = false := beq_eq_false_iff_ne.2 (by omega)
    have h3 : befN b t + 1 < t.length + 1 := by omega
    simp only [if_pos h2, e, Bool.false_eq_true, if_false, if_pos h3]
    omega
   ·have h3 : ¬ befN b t + 1 < t.length + 1 := by omega
    simp only [if_neg h2, if_neg h3]
    rfl
theorem index_hash : ∀ s : L8, Lib.index s [32, 35] = if V12.cutN s < s.length then (V12.cutN s : Int) else -1
 | [] => rfl
 | c :: t => by
  rw [Lib.index]
  have ep : ([32, 35] : L8).isPrefixOf (c :: t) = decide (c = 32 ∧ t.getD 0 0 = 35) := by
   show (32 == c && ([35] : L8).isPrefixOf t) = _
   rw [show ([35] : L8).isPrefixOf t = Lib.hasPrefix t [35] from rfl, pre_one, Bool.eq_iff_iff]
   simp only [Bool.and_eq_true, beq_iff_eq, decide_eq_true_eq]
   constructor
   ·rintro ⟨e, _, e2⟩; exact ⟨e.symm, e2⟩
   ·rintro ⟨e, e2⟩
    refine ⟨e.symm, fun e3 => ?_, e2⟩
    rw [e3] at e2; revert e2; decide
  have eb : V12.cutN (c :: t) = if c = 32 ∧ t.getD 0 0 = 35 then 0 else V12.cutN t + 1 := rfl
  rw [ep, eb]
  by_cases h : c = 32 ∧ t.getD 0 0 = 35
  ·simp only [decide_eq_true h, if_true, if_pos h, List.length_cons]
   rw [if_pos (Nat.succ_pos _)]; rfl
  ·simp only [decide_eq_false h, Bool.false_eq_true, if_false, if_neg h, List.length_cons]
   rw [index_hash t]
   by_cases h2 : V12.cutN t < t.length
   ·have e : ((V12.cutN t : Int) == -1) = false := beq_eq_false_iff_ne.2 (by omega)
    have h3 : V12.cutN t + 1 < t.length + 1 := by omega
    simp only [if_pos h2, e, Bool.false_eq_true, if_false, if_pos h3]
    omega
   ·have h3 : ¬ V12.cutN t + 1 < t.length + 1 := by omega
    simp only [if_neg h2, if_neg h3]
    rfl
theorem cutN_le : ∀ s : L8, V12.cutN s ≤ s.length
 | [] => Nat.le_refl _
 | c :: t => by
  have := cutN_le t
  unfold V12.cutN
  rw [List.length_cons]
  split <;> omega
theorem cut_hash (s : L8) : (Lib.cut s [32, 35]).1 = s.take (V12.cutN s) := by
 have := cutN_le s
 unfold Lib.cut
 rw [index_hash]
 by_cases h : V12.cutN s < s.length
 ·rw [if_pos h, if_pos (by omega)]; simp
 ·rw [if_neg h, if_neg (by decide), List.take_of_length_le (by omega)]
theorem cut_yes {s : L8} (h : befN 61 s < s.length) : Lib.cut s [61] = (s.take (befN 61 s), s.drop (befN 61 s + 1), true) := by
 unfold Lib.cut
 rw [index_one12, if_pos h, if_pos (by omega)]; simp
theorem cut_no {s : L8} (h : befN 61 s = s.length) : Lib.cut s [61] = (s, [], false) := by
 unfold Lib.cut
 rw [index_one12, if_neg (show ¬ befN 61 s < s.length by omega)]
 rfl
def valW (l : L8) : Option L8 := if l.getD 0 0 = 32 then none else valV l
theorem pair_cut {s : L8} (h : befN 61 s = s.length) : pairV s = none := by unfold pairV; simp only []; rw [if_pos (.inl h)]
theorem pair_key {s : L8} (h : isV (s.take (befN 61 s)) = false) : pairV s = none := by unfold pairV; simp only []; rw [if_pos (.inr (.inl h))]
theorem pair_valW {s : L8} (h : befN 61 s < s.length) (hk : isV (s.take (befN 61 s)) = true) : pairV s = (valW (s.drop (befN 61 s + 1))).map fun v => (s.take (befN 61 s), v) := by
 unfold pairV valW
 simp only []
 have e : (s.drop (befN 61 s + 1)).getD 0 0 = s.getD (befN 61 s + 1) 0 := by
  rw [List.getD_eq_getElem?_getD, List.getD_eq_getElem?_getD, List.getElem?_drop, Nat.add_zero]
 by_cases hb : befN 61 s + 1 < s.length ∧ s.getD (befN 61 s + 1) 0 = 32
 ·rw [if_pos (.inr (.inr hb)), if_pos (by rw [e]; exact hb.2)]; rfl
 ·rw [if_neg (by rintro (e1 | e1 | e1); omega; rw [hk] at e1; cases e1; exact hb e1), if_neg]
  intro e2
  rw [e] at e2
  refine hb ⟨?_, e2⟩
  rcases Nat.lt_or_ge (befN 61 s + 1) s.length with h1 | h1
  ·exact h1
  ·rw [List.getD_eq_getElem?_getD, List.getElem?_eq_none h1] at e2
   exact absurd e2 (by decide)
theorem isQ_quote (l : L8) : isQuote l 0 = isQ l := by
 unfold isQuote isQ
 rw [Bool.eq_iff_iff]
 simp only [Bool.and_eq_true, Bool.or_eq_true, decide_eq_true_eq, Int.toNat_zero]
 constructor
 ·rintro ⟨_, h⟩; exact h
 ·intro h
  refine ⟨⟨Int.le_refl _, ?_⟩, h⟩
  cases l with
  | nil => exact absurd h (by decide)
  | cons c t => simp
theorem scan_bare {l : L8} (h : isQ l = false) : scanE l 0 = 2 := by unfold scanE; rw [isQ_quote, h]; rfl
theorem scan_quoted {l : L8} (h : isQ l = true) : scanE l 0 = 0 ∨ scanE l 0 = 3 := by
 unfold scanE
 rw [isQ_quote, h, if_pos rfl]
 cases scanR l (Int.toNat 0) with
 | none => exact .inr rfl
 | some p => exact .inl rfl
theorem isQ_head {l : L8} (h : isQ l = true) : l.getD 0 0 ≠ 32 := by
 unfold isQ at h
 rcases of_decide_eq_true h with e | e <;> rw [e] <;> decide
theorem valW_quoted {l : L8} (h : endOk l) (hq : isQ l = true) : valW l = if scanE l 0 = 0 then (if behP (l.drop (scanN l 0).toNat) then some (scanV l 0) else none) else none := by
 unfold valW valV
 rw [if_neg (isQ_head hq), if_pos hq, behind_prog h]
theorem valW_blank {l : L8} (h : l.getD 0 0 = 32) : valW l = none := if_pos h
theorem valW_bare {l : L8} (hq : isQ l = false) (h : l.getD 0 0 ≠ 32) : valW l = if goodL (dropE (l.take (V12.cutN l))) then some (dropE (l.take (V12.cutN l))) else none := by
 unfold valW valV
 rw [if_neg h, if_neg (by rw [hq]; decide)]
 have e : trimS (l.take (V12.cutN l)) = dropE (l.take (V12.cutN l)) := by
  unfold trimS
  rw [dropB_no]
  intro e
  cases l with
  | nil => exact h e
  | cons c t =>
   cases hn : V12.cutN (c :: t) with
   | zero => rw [hn] at e; exact absurd (show (0 : UInt8) = 32 from e) (by decide)
   | succ n => rw [hn] at e; exact h e
 rw [e]
def rows12 : L8 → List L8
 | [] => [[]]
 | c :: l => if c = 10 then [] :: rows12 l else match rows12 l with | r :: rs => (c :: r) :: rs | [] => [[c]]
theorem rows12_split (l : L8) : Lib.splitK [10] 0 (Lib.count l [10]) l = rows12 l := by
 induction l with
 | nil => rw [Lib.count_one]; rfl
 | cons c l ih =>
  unfold rows12
  by_cases h : c = 10
  ·subst h
   have hix : Lib.index (10 :: l) [10] = 0 := by rw [Lib.index]; simp [List.isPrefixOf]
   rw [Lib.count_cons_eq, Nat.add_comm, if_pos rfl, Lib.splitK, hix, ← ih]
   rfl
  ·rw [Lib.count_cons_ne c 10 l h, if_neg h]
   have hp : ([10] : L8).isPrefixOf (c :: l) = false := by simp [List.isPrefixOf, Ne.symm h]
   have hix : Lib.index (c :: l) [10] = if Lib.index l [10] == -1 then -1 else Lib.index l [10] + 1 := by rw [Lib.index, hp]; simp
   cases hk : Lib.count l [10] with
   | zero =>
    rw [hk] at ih
    rw [← ih]; rfl
   | succ k =>
    obtain ⟨i, hi⟩ := Lib.index_of_count (s := l) (old := [10]) (by omega)
    rw [hi] at hix
    have : ((i : Int) == -1) = false := beq_eq_false_iff_ne.2 (by omega)
    rw [this] at hix
    simp only [Bool.false_eq_true, if_false] at hix
    rw [hk, Lib.splitK, hi, this] at ih
    have h2 : ((i : Int) + 1 == -1) = false := beq_eq_false_iff_ne.2 (by omega)
    rw [Lib.splitK, hix, h2, ← ih]
    have e1 : ((i : Int) + 1).toNat = i + 1 := by omega
    rw [e1, Int.toNat_natCast]
    rfl
theorem rows12_row : ∀ l : L8, rows12 l = l.take (befN 10 l) :: (if befN 10 l < l.length then rows12 (l.drop (befN 10 l + 1)) else [])
 | [] => rfl
 | c :: l => by
  have eb : befN 10 (c :: l) = if c = 10 then 0 else befN 10 l + 1 := rfl
  rw [rows12, eb]
  by_cases h : c = 10
  ·rw [if_pos h, if_pos h, if_pos (by simp)]; rfl
  ·rw [if_neg h, if_neg h, rows12_row l]
   show (c :: l.take (befN 10 l)) :: _ = _
   rw [List.take_succ_cons, List.length_cons, List.drop_succ_cons]
   congr 1
   by_cases h2 : befN 10 l < l.length
   ·rw [if_pos h2, if_pos (by omega)]
   ·rw [if_neg h2, if_neg (by omega)]
def runV (no : Nat) (acc : List KV) : List L8 → List KV × Nat × Int
 | [] => if 64 < (gath acc).length then ([], 0, 9) else (gath acc, 0, 0)
 | r :: rs => match lineV r with
  | none => ([], no + 1, 3)
  | some o => runV (no + 1) (acc ++ o.toList) rs
theorem runV_go (n : Nat) : ∀ (l : L8) (no : Nat) (acc : List KV), l.length ≤ n → runV no acc (rows12 l) = goV no acc l := by
 induction n with
 | zero =>
  intro l no acc h
  rw [List.length_eq_zero_iff.1 (Nat.le_zero.1 h), goV_nil]
  show runV (no + 1) (acc ++ []) [] = _
  rw [List.append_nil]; rfl
 | succ n ih =>
  intro l no acc h
  by_cases h0 : l = []
  ·rw [h0, goV_nil]
   show runV (no + 1) (acc ++ []) [] = _
   rw [List.append_nil]; rfl
  ·rw [rows12_row, runV]
   cases hl : lineV (l.take (befN 10 l)) with
   | none => rw [goV_bad h0 hl]
   | some o =>
    rw [goV_next h0 hl]
    have hle := befN_le 10 l
    by_cases h2 : befN 10 l < l.length
    ·rw [if_pos h2]
     exact ih _ _ _ (by rw [List.length_drop]; omega)
    ·rw [if_neg h2, List.drop_of_length_le (by omega), goV_nil]; rfl
theorem par_run {l : L8} (h : ¬ 8192 < l.length) : parV l = runV 0 [] (rows12 l) := by
 unfold parV
 rw [if_neg h, runV_go _ _ _ _ (Nat.le_refl _)]
theorem rows12_len (l : L8) : ∀ r ∈ rows12 l, r.length ≤ l.length := by
 induction l with
 | nil => intro r hr; rw [List.mem_singleton.1 hr]; exact Nat.le_refl _
 | cons c l ih =>
  intro r hr
  unfold rows12 at hr
  split at hr
  ·rcases List.mem_cons.1 hr with rfl | hr
   ·exact Nat.zero_le _
   ·have := ih r hr; rw [List.length_cons]; omega
  ·split at hr
   ·rename_i r0 rs he
    rw [he] at ih
    rcases List.mem_cons.1 hr with rfl | hr
    ·have := ih r0 (List.mem_cons_self ..); rw [List.length_cons, List.length_cons]; omega
    ·have := ih r (List.mem_cons_of_mem _ hr); rw [List.length_cons]; omega
   ·rw [List.mem_singleton.1 hr]; simp
theorem lineV_skip {l t : L8} (h : trimS l = t) (ht : t = [] ∨ t.getD 0 0 = 35) : lineV l = some none := by
 unfold lineV; simp only [h]; rw [if_pos ht]
theorem lineV_pair {l t : L8} (h : trimS l = t) (ht : ¬ (t = [] ∨ t.getD 0 0 = 35)) : lineV l = (pairV (expS t)).map some := by
 unfold lineV; simp only [h]; rw [if_neg ht]
theorem trim_dropB (l : L8) : dropB (trimS l) = trimS l := by
 unfold trimS
 rw [trim_swap]
 have : dropB (dropB l) = dropB l := by
  cases h : dropB l with
  | nil => rfl
  | cons a r => rw [dropB_cons, if_neg (dropB_head h)]
 rw [this]
end V12
end Go.Proofs.YtgdejjkiiaodkaaGreatDoor
