/- EmiLine, EmiBack, EmiFile, EmiRef, EmiStep -/
import Derived.Test.YtmdgpejedbkkdaaGreatDoorWT13
import Derived.Test.YtmdgpejedbkkdaaGreatDoorWT5
set_option linter.unusedVariables false
set_option linter.unusedSimpArgs false
set_option maxRecDepth 100000
set_option maxHeartbeats 16000000
namespace Go.Proofs.YtmdgpejedbkkdaaGreatDoor
namespace E11
open Nw N8 Q6 F9 B10
def Say (t : L8) : Prop := ∀ a b : L8, prevB (a ++ t ++ b) a.length = 32 → endAt (a ++ t ++ b) a.length = endAt (a ++ t ++ b) (a.length + t.length)
theorem getD_mid {a t b : L8} {i : Nat} (hi : i < t.length) : (a ++ t ++ b).getD (a.length + i) 0 = t.getD i 0 := by
 rw [List.append_assoc, getD_app2, getD_app hi]
theorem raw_steps {a t b : L8} (hg : ∀ i, i < t.length → good (t.getD i 0) = true ∧ isQ (t.getD i 0) = false ∧ ¬ (t.getD i 0 = 35 ∧ (i = 0 ∨ t.getD (i - 1) 0 = 32))) :
  ∀ (n i : Nat), i + n = t.length → endAt (a ++ t ++ b) (a.length + i) = endAt (a ++ t ++ b) (a.length + t.length)
 | 0, i, h => by rw [show i = t.length by omega]
 | n + 1, i, h => by
  have hi : i < t.length := by omega
  obtain ⟨h1, h2, h3⟩ := hg i hi
  have e := getD_mid (a := a) (b := b) hi
  have hb : begK (a ++ t ++ b) (a.length + i) = 0 := by
   unfold begK
   rw [e, if_neg, if_neg]
   ·rintro ⟨hq, _⟩
    unfold isQ at h2
    rw [Bool.or_eq_false_iff] at h2
    rcases hq with hq | hq
    ·exact of_decide_eq_false h2.1 hq
    ·exact of_decide_eq_false h2.2 hq
   ·rintro ⟨hq, hp⟩
    refine h3 ⟨hq, ?_⟩
    by_cases h0 : i = 0
    ·exact .inl h0
    ·right
     unfold prevB at hp
     rw [if_neg (by omega), show a.length + i - 1 = a.length + (i - 1) by omega, getD_mid (by omega)] at hp
     exact hp
  rw [endAt_next (by rw [List.length_append, List.length_append]; omega) hb (by rw [e]; exact h1), Nat.add_assoc]
  exact raw_steps hg n (i + 1) (by omega)
theorem say_raw {t : L8} (hg : ∀ i, i < t.length → good (t.getD i 0) = true ∧ isQ (t.getD i 0) = false ∧ ¬ (t.getD i 0 = 35 ∧ (i = 0 ∨ t.getD (i - 1) 0 = 32))) : Say t := fun a b _ => raw_steps hg t.length 0 (Nat.zero_add _)
theorem say_plain {t : L8} (h : plainB t = true) (hq : noq t = true) : Say t := say_raw fun i hi => by
 obtain ⟨h1, h2, h3⟩ := plain_at h hi
 refine ⟨h1, noq_at hq hi, fun ⟨h4, h5⟩ => ?_⟩
 rcases h5 with rfl | h5
 ·have := (first_not h hq).2.2.2.1
  rw [headD_getD] at this; exact this h4
 ·by_cases h0 : 0 < i
  ·exact h3 ⟨h4, h0, h5⟩
  ·obtain rfl : i = 0 := by omega
   have := (first_not h hq).2.2.2.1
   rw [headD_getD] at this; exact this h4
theorem dbl_len1 (t : L8) : (dblL t).length = (escL t).length + 2 := by unfold dblL; simp
theorem say_dbl (t : L8) : Say (dblL t) := by
 intro a b hp
 have e0 : (a ++ dblL t ++ b).getD a.length 0 = 34 := by
  have := getD_mid (a := a) (t := dblL t) (b := b) (i := 0) (by rw [dbl_len1]; omega)
  rw [Nat.add_zero] at this; rw [this]; rfl
 have hb : begK (a ++ dblL t ++ b) a.length = 1 := by
  unfold begK
  rw [e0, hp]; decide
 have hd : (a ++ dblL t ++ b).drop (a.length + 1) = escL t ++ 34 :: b := by
  rw [List.append_assoc, List.drop_append, List.drop_of_length_le (Nat.le_succ _), List.nil_append, show a.length + 1 - a.length = 1 by omega]
  unfold dblL; simp
 have hq : isQuote (a ++ dblL t ++ b) (a.length : Int) = true := by
  unfold isQuote
  rw [Int.toNat_natCast, e0]
  have h1 : (a.length : Int) < ((a ++ dblL t ++ b).length : Int) := by rw [List.length_append, List.length_append, dbl_len1]; omega
  rw [decide_eq_true (by omega : (0 : Int) ≤ (a.length : Int)), decide_eq_true h1]; rfl
 have hs : scanR (a ++ dblL t ++ b) a.length = some (t, a.length + (dblL t).length) := by
  unfold scanR
  rw [if_pos e0]
  unfold atD
  rw [hd, scD_esc]
  show some ([] ++ t, a.length + 1 + ((escL t).length + 1)) = _
  rw [List.nil_append, dbl_len1, show a.length + 1 + ((escL t).length + 1) = a.length + ((escL t).length + 2) by omega]
 have hE : scanE (a ++ dblL t ++ b) (a.length : Int) = 0 := by unfold scanE; rw [hq, Int.toNat_natCast, hs]; rfl
 have hN : scanN (a ++ dblL t ++ b) (a.length : Int) = ((a.length + (dblL t).length : Nat) : Int) := by unfold scanN; rw [hq, Int.toNat_natCast, hs]; rfl
 exact endAt_quote (by rw [List.length_append, List.length_append, dbl_len1]; omega) hb hE hN (by rw [dbl_len1]; omega)
theorem say_scw (t : L8) : Say (scw t) := by
 unfold scw
 by_cases hp : (plainB t && noq t) = true
 ·rw [if_pos hp]; rw [Bool.and_eq_true] at hp; exact say_plain hp.1 hp.2
 ·rw [if_neg hp]; exact say_dbl t
theorem say_app {s t : L8} (hs : Say s) (ht : Say t) (h0 : s ≠ []) (hl : s.getD (s.length - 1) 0 = 32) : Say (s ++ t) := by
 intro a b hp
 have hpos := List.length_pos_iff.2 h0
 have e : a ++ (s ++ t) ++ b = a ++ s ++ (t ++ b) := by simp
 have e2 : a ++ (s ++ t) ++ b = (a ++ s) ++ t ++ b := by simp
 rw [e] at hp
 have h1 := hs a (t ++ b) hp
 have hp2 : prevB ((a ++ s) ++ t ++ b) (a ++ s).length = 32 := by
  unfold prevB
  rw [if_neg (by rw [List.length_append]; omega), ← e2, e, List.length_append, show a.length + s.length - 1 = a.length + (s.length - 1) by omega, getD_mid (by omega), hl]
 have h2 := ht (a ++ s) b hp2
 rw [← e, ← List.length_append] at h1
 rw [← e2, List.length_append] at h2
 rw [List.length_append] at h1
 rw [h1, h2, List.length_append, Nat.add_assoc]
theorem say_more {s t : L8} (hs : Say s) (ht : ∀ a b : L8, endAt (a ++ t ++ b) a.length = endAt (a ++ t ++ b) (a.length + t.length)) : Say (s ++ t) := by
 intro a b hp
 have e : a ++ (s ++ t) ++ b = a ++ s ++ (t ++ b) := by simp
 have e2 : a ++ (s ++ t) ++ b = (a ++ s) ++ t ++ b := by simp
 rw [e] at hp
 have h1 := hs a (t ++ b) hp
 have h2 := ht (a ++ s) b
 rw [← e] at h1
 rw [← e2, List.length_append] at h2
 rw [h1, h2, List.length_append, Nat.add_assoc]
theorem raw_colon : ∀ a b : L8, endAt (a ++ [58] ++ b) a.length = endAt (a ++ [58] ++ b) (a.length + 1) := fun a b => raw_steps (t := [58]) (by decide) 1 0 rfl
theorem raw_colon2 : ∀ a b : L8, endAt (a ++ [58, 32] ++ b) a.length = endAt (a ++ [58, 32] ++ b) (a.length + 2) := fun a b => raw_steps (t := [58, 32]) (by decide) 2 0 rfl
structure LineOK (u : L8) : Prop where
 ne : u ≠ []
 no10 : ∀ c ∈ u, c ≠ 10
 first : u.headD 0 ≠ 32 ∧ u.headD 0 ≠ 35
 last : u.getD (u.length - 1) 0 ≠ 32
 say : Say u
theorem good10 {c : UInt8} (h : good c = true) : c ≠ 10 := good_not10 h
theorem dg_10 (n : Nat) (h : n < 16) : dg n ≠ 10 := by
 intro e
 have := dg_nat n h
 rw [e] at this
 split at this
 ·have h1 : (10 : UInt8).toNat = 10 := rfl
  omega
 ·have h1 : (10 : UInt8).toNat = 10 := rfl
  omega
theorem esc_10 (c : UInt8) : ∀ x ∈ esc c, x ≠ 10 := by
 intro x hx
 unfold esc at hx
 split at hx
 ·rename_i h
  simp only [List.mem_cons, List.not_mem_nil, or_false] at hx
  rcases hx with rfl | rfl
  ·decide
  ·rcases h with rfl | rfl <;> decide
 ·split at hx
  ·simp only [List.mem_cons, List.not_mem_nil, or_false] at hx
   rcases hx with rfl | rfl <;> decide
  ·split at hx
   ·simp only [List.mem_cons, List.not_mem_nil, or_false] at hx
    rcases hx with rfl | rfl <;> decide
   ·split at hx
    ·rename_i h
     simp only [List.mem_cons, List.not_mem_nil, or_false] at hx
     rw [hx]; exact good10 h
    ·simp only [List.mem_cons, List.not_mem_nil, or_false] at hx
     have := c.toNat_lt
     rcases hx with rfl | rfl | rfl | rfl
     ·decide
     ·decide
     ·exact dg_10 _ (by omega)
     ·exact dg_10 _ (by omega)
theorem dbl_10 (t : L8) : ∀ x ∈ dblL t, x ≠ 10 := by
 intro x hx
 unfold dblL escL at hx
 rcases List.mem_append.1 hx with hx | hx
 ·rcases List.mem_cons.1 hx with rfl | hx
  ·decide
  ·obtain ⟨l, hl, hx⟩ := List.mem_flatten.1 hx
   obtain ⟨c, _, rfl⟩ := List.mem_map.1 hl
   exact esc_10 c x hx
 ·rw [List.mem_singleton.1 hx]; decide
theorem dbl_last (t : L8) : (dblL t).getD ((dblL t).length - 1) 0 = 34 := by
 have e : dblL t = (34 :: escL t) ++ [34] := rfl
 have hl : (dblL t).length - 1 = (34 :: escL t).length + 0 := by rw [dbl_len1]; rfl
 rw [hl, e, getD_app2]; rfl
theorem plain_10 {t : L8} (h : plainB t = true) : ∀ c ∈ t, c ≠ 10 := by
 intro c hc
 obtain ⟨i, hi, rfl⟩ := List.mem_iff_getElem.1 hc
 have := (plain_at h hi).1
 rw [List.getD_eq_getElem?_getD, List.getElem?_eq_getElem hi] at this
 exact good10 this
theorem ok_scw (t : L8) : LineOK (scw t) := by
 obtain ⟨_, _, _, _, h5, h6, h7⟩ := scw_line t
 refine ⟨h7, ?_, ⟨h5, h6⟩, ?_, say_scw t⟩
 ·unfold scw
  by_cases hp : (plainB t && noq t) = true
  ·rw [if_pos hp]; rw [Bool.and_eq_true] at hp; exact plain_10 hp.1
  ·rw [if_neg hp]; exact dbl_10 t
 ·unfold scw
  by_cases hp : (plainB t && noq t) = true
  ·rw [if_pos hp]; rw [Bool.and_eq_true] at hp; exact (plain_head hp.1).2.1
  ·rw [if_neg hp, dbl_last]; decide
theorem ok_keyw (k : L8) : LineOK (keyw k) := by
 unfold keyw
 by_cases h : k = [60, 60]
 ·rw [if_pos h]
  exact ⟨by unfold dblL; simp, dbl_10 k, ⟨show (34 : UInt8) ≠ 32 by decide, show (34 : UInt8) ≠ 35 by decide⟩, by rw [dbl_last]; decide, say_dbl k⟩
 ·rw [if_neg h]; exact ok_scw k
theorem ok_null : LineOK [110, 117, 108, 108] := ⟨by decide, by decide, by decide, by decide, say_raw (by decide)⟩
theorem ok_seq0 : LineOK [91, 93] := ⟨by decide, by decide, by decide, by decide, say_raw (by decide)⟩
theorem ok_map0 : LineOK [123, 125] := ⟨by decide, by decide, by decide, by decide, say_raw (by decide)⟩
theorem ok_scal (d : Nd) : LineOK (scal d) := by
 obtain ⟨k, t, ks, ds⟩ := d
 show LineOK (if k = 0 then [110, 117, 108, 108] else if k = 1 then scw t else if k = 2 then [91, 93] else [123, 125])
 by_cases h0 : k = 0
 ·rw [if_pos h0]; exact ok_null
 rw [if_neg h0]
 by_cases h1 : k = 1
 ·rw [if_pos h1]; exact ok_scw t
 rw [if_neg h1]
 by_cases h2 : k = 2
 ·rw [if_pos h2]; exact ok_seq0
 rw [if_neg h2]; exact ok_map0
theorem two_10 {a b c : UInt8} (h : c ∈ [a, b]) (ha : a ≠ 10) (hb : b ≠ 10) : c ≠ 10 := by
 simp only [List.mem_cons, List.not_mem_nil, or_false] at h
 rcases h with rfl | rfl
 ·exact ha
 ·exact hb
theorem last_app {s t : L8} (h : t ≠ []) : (s ++ t).getD ((s ++ t).length - 1) 0 = t.getD (t.length - 1) 0 := by
 have := List.length_pos_iff.2 h
 rw [List.length_append, show s.length + t.length - 1 = s.length + (t.length - 1) by omega, getD_app2]
theorem head_app {s t : L8} (h : s ≠ []) : (s ++ t).headD 0 = s.headD 0 := by
 cases s with
 | nil => exact absurd rfl h
 | cons c s => rfl
theorem ok_key1 (k : L8) : LineOK (keyw k ++ [58]) := by
 have h := ok_keyw k
 refine ⟨by simp, ?_, by rw [head_app h.ne]; exact h.first, by rw [last_app (by decide)]; decide, say_more h.say raw_colon⟩
 intro c hc
 rcases List.mem_append.1 hc with hc | hc
 ·exact h.no10 c hc
 ·rw [List.mem_singleton.1 hc]; decide
theorem ok_key2 (k : L8) {u : L8} (hu : LineOK u) : LineOK (keyw k ++ 58 :: 32 :: u) := by
 have h := ok_keyw k
 have e : keyw k ++ 58 :: 32 :: u = (keyw k ++ [58, 32]) ++ u := by simp
 refine ⟨by simp, ?_, by rw [head_app h.ne]; exact h.first, ?_, ?_⟩
 ·intro c hc
  rw [e] at hc
  rcases List.mem_append.1 hc with hc | hc
  ·rcases List.mem_append.1 hc with hc | hc
   ·exact h.no10 c hc
   ·exact two_10 hc (by decide) (by decide)
  ·exact hu.no10 c hc
 ·rw [e, last_app hu.ne]; exact hu.last
 ·rw [e]; exact say_app (say_more h.say raw_colon2) hu.say (by simp) (by rw [last_app (by decide)]; rfl)
end E11
end Go.Proofs.YtmdgpejedbkkdaaGreatDoor
namespace Go.Proofs.YtmdgpejedbkkdaaGreatDoor
namespace E11
open Nw N8 Q6 F9 B10
theorem key_head (k u : L8) : (keyw k ++ 58 :: u).headD 0 ≠ 32 ∧ keyw k ++ 58 :: u ≠ [] := by
 refine ⟨?_, by simp⟩
 unfold keyw
 by_cases h : k = [60, 60]
 ·rw [if_pos h, dbl_head]; decide
 ·rw [if_neg h]
  obtain ⟨_, _, _, _, h1, _, h2⟩ := scw_line k
  cases hs : scw k with
  | nil => exact absurd hs h2
  | cons c l => rw [hs] at h1; exact h1
theorem rws_first : ∀ (N : Nat) (d : Nd) (p : Nat), cntT d ≤ N → Fine d → shrt d = false → ∃ t tl, rws d p = (p, t) :: tl ∧ t.headD 0 ≠ 32 ∧ t ≠ []
 | 0, .mk k t ks ds, p, h, _, _ => by rw [cntT] at h; omega
 | N + 1, .mk k t ks ds, p, h, hf, hs => by
  have hff := hf
  obtain ⟨⟨h0, h3⟩, ht, hk, hd, hfd⟩ := fine_in hf
  unfold shrt at hs
  rw [Bool.or_eq_false_iff] at hs
  have h2 : ¬ k < 2 := of_decide_eq_false hs.1
  have hne : ds ≠ [] := of_decide_eq_false hs.2
  rw [cntT] at h
  cases ds with
  | nil => exact absurd rfl hne
  | cons e es =>
   rw [cntL] at h
   by_cases e2 : k = 2
   ·rw [rws, if_pos e2, rwS]
    by_cases he : shrt e = true
    ·rw [if_pos he]; exact ⟨_, _, rfl, show (45 : UInt8) ≠ 32 by decide, by simp⟩
    ·rw [if_neg he]
     obtain ⟨t1, tl, h1, _, _⟩ := rws_first N e (p + 2) (by omega) (hfd e (List.mem_cons_self ..)) (by simpa using he)
     rw [h1]; exact ⟨_, _, rfl, show (45 : UInt8) ≠ 32 by decide, by simp⟩
   ·rw [rws, if_neg e2]
    have e3 : k = 3 := by omega
    have hlen : ks.length = (e :: es).length := by
     cases hff with
     | mk a b c dd ee => exact (dd e3).1
    cases ks with
    | nil => cases hlen
    | cons x xs =>
     rw [rwM]
     by_cases he : shrt e = true
     ·rw [if_pos he]; exact ⟨_, _, rfl, (key_head _ _).1, (key_head _ _).2⟩
     ·rw [if_neg he]; exact ⟨_, _, rfl, (key_head _ _).1, (key_head _ _).2⟩
theorem kid_val {n : Nat} {x : Ln} {l : List Ln} {r : L8} (h : r ≠ []) : kidM n x l r = valL r x.no := if_pos h
end E11
end Go.Proofs.YtmdgpejedbkkdaaGreatDoor
namespace Go.Proofs.YtmdgpejedbkkdaaGreatDoor
namespace E11
open Nw N8 Q6 F9 B10
def flat (q : Nat × L8) : L8 := List.replicate q.1 32 ++ q.2 ++ [10]
def wrB (d : Nd) : L8 :=
 if d.kind = 0 then []
 else if d.kind = 1 ∧ marker d.text = true then dblL d.text ++ [10]
 else if shrt d then scal d ++ [10]
 else ((rws d 0).map flat).flatten
end E11
end Go.Proofs.YtmdgpejedbkkdaaGreatDoor
namespace Go.Proofs.YtmdgpejedbkkdaaGreatDoor
namespace E11
open Nw N8 Q6 F9 B10
mutual
def rfR : Nd → L8 → L8 → L8
 | .mk k _ ks ds, f, p => if k = 2 then rfS ds f p else rfM ks ds f p
def rfS : List Nd → L8 → L8 → L8
 | [], _, _ => []
 | d :: ds, f, p => f ++ (if shrt d then [45, 32] ++ scal d ++ [10] else rfR d [45, 32] (p ++ [32, 32])) ++ rfS ds p p
def rfM : List L8 → List Nd → L8 → L8 → L8
 | k :: ks, d :: ds, f, p => f ++ (if shrt d then keyw k ++ [58, 32] ++ scal d ++ [10] else keyw k ++ [58, 10] ++ rfR d (p ++ [32, 32]) (p ++ [32, 32])) ++ rfM ks ds p p
 | _, _, _, _ => []
end
def spn (n : Nat) : L8 := List.replicate n 32
def cat (l : List (Nat × L8)) : L8 := (l.map flat).flatten
theorem cat_nil : cat [] = [] := rfl
theorem cat_cons (q : Nat × L8) (l : List (Nat × L8)) : cat (q :: l) = spn q.1 ++ q.2 ++ [10] ++ cat l := by unfold cat; rw [List.map_cons, List.flatten_cons]; rfl
theorem cat_app (a b : List (Nat × L8)) : cat (a ++ b) = cat a ++ cat b := by unfold cat; rw [List.map_append, List.flatten_append]
theorem spn_two (n : Nat) : spn n ++ [32, 32] = spn (n + 2) := by
 unfold spn
 rw [← List.replicate_append_replicate]; rfl
def Ahead (l : List (Nat × L8)) (n : Nat) (F : L8 → L8) : Prop := ∃ u, cat l = spn n ++ u ∧ ∀ f, F f = f ++ u
theorem rf_same : ∀ N : Nat,
  (∀ (d : Nd) (n : Nat), cntT d ≤ N → N8.Fine d → shrt d = false → Ahead (rws d n) n fun f => rfR d f (spn n)) ∧
  (∀ (ds : List Nd) (n : Nat), cntL ds ≤ N → (∀ d ∈ ds, N8.Fine d) → (ds ≠ [] → Ahead (rwS ds n) n fun f => rfS ds f (spn n)) ∧ rfS ds (spn n) (spn n) = cat (rwS ds n)) ∧
  (∀ (ks : List L8) (ds : List Nd) (n : Nat), cntL ds ≤ N → ks.length = ds.length → (∀ d ∈ ds, N8.Fine d) → (ds ≠ [] → Ahead (rwM ks ds n) n fun f => rfM ks ds f (spn n)) ∧ rfM ks ds (spn n) (spn n) = cat (rwM ks ds n)) := by
 intro N
 induction N with
 | zero =>
  refine ⟨fun d n h => ?_, fun ds n h hf => ?_, fun ks ds n h hl hf => ?_⟩
  ·cases d with | mk k t ks ds => rw [cntT] at h; omega
  ·cases ds with
   | nil => exact ⟨fun h => absurd rfl h, by rw [rfS, rwS]; rfl⟩
   | cons d ds => cases d with | mk k t ks es => rw [cntL, cntT] at h; omega
  ·cases ds with
   | nil =>
    cases ks with
    | nil => exact ⟨fun h => absurd rfl h, by rw [rfM, rwM]; rfl; all_goals (intros; contradiction)⟩
    | cons k ks => cases hl
   | cons d ds => cases d with | mk k t ks es => rw [cntL, cntT] at h; omega
 | succ N ih =>
  obtain ⟨ih1, ih2, ih3⟩ := ih
  have tree : ∀ (d : Nd) (n : Nat), cntT d ≤ N + 1 → N8.Fine d → shrt d = false → Ahead (rws d n) n fun f => rfR d f (spn n) := by
   intro d n h hf hs
   obtain ⟨k, t, ks, ds⟩ := d
   have hff := hf
   obtain ⟨⟨h0, h3⟩, ht, hk, hd, hfd⟩ := fine_in hf
   rw [cntT] at h
   unfold shrt at hs
   rw [Bool.or_eq_false_iff] at hs
   have h2 : ¬ k < 2 := of_decide_eq_false hs.1
   have hne : ds ≠ [] := of_decide_eq_false hs.2
   by_cases e2 : k = 2
   ·obtain ⟨u, a, b⟩ := (ih2 ds n (by omega) hfd).1 hne
    refine ⟨u, by rw [rws, if_pos e2]; exact a, fun f => ?_⟩
    show rfR (.mk k t ks ds) f (spn n) = _
    rw [rfR, if_pos e2]; exact b f
   ·have hl : ks.length = ds.length := by
     cases hff with
     | mk a b c dd ee => exact (dd (by omega)).1
    obtain ⟨u, a, b⟩ := (ih3 ks ds n (by omega) hl hfd).1 hne
    refine ⟨u, by rw [rws, if_neg e2]; exact a, fun f => ?_⟩
    show rfR (.mk k t ks ds) f (spn n) = _
    rw [rfR, if_neg e2]; exact b f
  have seq : ∀ (ds : List Nd) (n : Nat), cntL ds ≤ N + 1 → (∀ d ∈ ds, N8.Fine d) → (ds ≠ [] → Ahead (rwS ds n) n fun f => rfS ds f (spn n)) ∧ rfS ds (spn n) (spn n) = cat (rwS ds n) := by
   intro ds
   induction ds with
   | nil => intro n _ _; exact ⟨fun h => absurd rfl h, by rw [rfS, rwS]; rfl⟩
   | cons d ds ihd =>
    intro n h hf
    rw [cntL] at h
    have hfd := hf d (List.mem_cons_self ..)
    have hr := (ihd n (by omega) fun e he => hf e (List.mem_cons_of_mem _ he)).2
    have key : Ahead (rwS (d :: ds) n) n fun f => rfS (d :: ds) f (spn n) := by
     by_cases hs : shrt d = true
     ·refine ⟨[45, 32] ++ scal d ++ [10] ++ cat (rwS ds n), ?_, fun f => ?_⟩
      ·rw [rwS, if_pos hs, cat_app, cat_cons, cat_nil]; simp
      ·show rfS (d :: ds) f (spn n) = _
       rw [rfS, if_pos hs, hr]; simp
     ·have hs' : shrt d = false := by simpa using hs
      obtain ⟨u, a, b⟩ := tree d (n + 2) (by omega) hfd hs'
      obtain ⟨t1, tl, h1, _, _⟩ := rws_first _ d (n + 2) (Nat.le_refl _) hfd hs'
      refine ⟨[45, 32] ++ u ++ cat (rwS ds n), ?_, fun f => ?_⟩
      ·rw [rwS, if_neg hs, cat_app, h1]
       show cat ((n, 45 :: 32 :: t1) :: tl) ++ _ = _
       rw [h1, cat_cons] at a
       have a' : t1 ++ [10] ++ cat tl = u := by
        have : spn (n + 2) ++ (t1 ++ [10] ++ cat tl) = spn (n + 2) ++ u := by rw [← a]; simp
        exact List.append_cancel_left this
       rw [cat_cons, ← a']; simp
      ·show rfS (d :: ds) f (spn n) = _
       have b' : rfR d [45, 32] (spn (n + 2)) = [45, 32] ++ u := b [45, 32]
       rw [rfS, if_neg hs, spn_two, b', hr]; simp
    refine ⟨fun _ => key, ?_⟩
    obtain ⟨u, a, b⟩ := key
    have b' : rfS (d :: ds) (spn n) (spn n) = spn n ++ u := b (spn n)
    rw [b', a]
  have mp : ∀ (ds : List Nd) (ks : List L8) (n : Nat), cntL ds ≤ N + 1 → ks.length = ds.length → (∀ d ∈ ds, N8.Fine d) → (ds ≠ [] → Ahead (rwM ks ds n) n fun f => rfM ks ds f (spn n)) ∧ rfM ks ds (spn n) (spn n) = cat (rwM ks ds n) := by
   intro ds
   induction ds with
   | nil =>
    intro ks n _ hl _
    cases ks with
    | nil => exact ⟨fun h => absurd rfl h, by rw [rfM, rwM]; rfl; all_goals (intros; contradiction)⟩
    | cons k ks => cases hl
   | cons d ds ihd =>
    intro ks n h hl hf
    cases ks with
    | nil => cases hl
    | cons k ks =>
     rw [cntL] at h
     have hfd := hf d (List.mem_cons_self ..)
     have hr := (ihd ks n (by omega) (by simpa using hl) fun e he => hf e (List.mem_cons_of_mem _ he)).2
     have key : Ahead (rwM (k :: ks) (d :: ds) n) n fun f => rfM (k :: ks) (d :: ds) f (spn n) := by
      by_cases hs : shrt d = true
      ·refine ⟨keyw k ++ [58, 32] ++ scal d ++ [10] ++ cat (rwM ks ds n), ?_, fun f => ?_⟩
       ·rw [rwM, if_pos hs, cat_app, cat_cons, cat_nil]; simp
       ·show rfM (k :: ks) (d :: ds) f (spn n) = _
        rw [rfM, if_pos hs, hr]; simp
      ·have hs' : shrt d = false := by simpa using hs
       obtain ⟨u, a, b⟩ := tree d (n + 2) (by omega) hfd hs'
       refine ⟨keyw k ++ [58, 10] ++ (spn (n + 2) ++ u) ++ cat (rwM ks ds n), ?_, fun f => ?_⟩
       ·rw [rwM, if_neg hs, cat_app, cat_cons, a]; simp
       ·show rfM (k :: ks) (d :: ds) f (spn n) = _
        have b' : rfR d (spn (n + 2)) (spn (n + 2)) = spn (n + 2) ++ u := b (spn (n + 2))
        rw [rfM, if_neg hs, spn_two, b', hr]; simp
     refine ⟨fun _ => key, ?_⟩
     obtain ⟨u, a, b⟩ := key
     have b' : rfM (k :: ks) (d :: ds) (spn n) (spn n) = spn n ++ u := b (spn n)
     rw [b', a]
  exact ⟨tree, seq, fun ks ds n h hl hf => mp ds ks n h hl hf⟩
theorem rf_top {d : Nd} (hf : N8.Fine d) (hs : shrt d = false) : rfR d [] [] = ((rws d 0).map flat).flatten := by
 obtain ⟨u, a, b⟩ := (rf_same _).1 d 0 (Nat.le_refl _) hf hs
 have b' : rfR d [] [] = [] ++ u := b []
 have a' : cat (rws d 0) = spn 0 ++ u := a
 rw [b']
 exact a'.symm
end E11
end Go.Proofs.YtmdgpejedbkkdaaGreatDoor
namespace Go.Proofs.YtmdgpejedbkkdaaGreatDoor
namespace E11
open Nw N8 Q6 F9 B10
def pieS (p : L8) (d : Nd) : L8 := if shrt d then [45, 32] ++ scal d ++ [10] else rfR d [45, 32] (p ++ [32, 32])
def pieM (p : L8) (k : L8) (d : Nd) : L8 := if shrt d then keyw k ++ [58, 32] ++ scal d ++ [10] else keyw k ++ [58, 10] ++ rfR d (p ++ [32, 32]) (p ++ [32, 32])
theorem rfS_cons (d : Nd) (ds : List Nd) (f p : L8) : rfS (d :: ds) f p = f ++ pieS p d ++ rfS ds p p := by rw [rfS]; rfl
theorem rfM_cons (k : L8) (ks : List L8) (d : Nd) (ds : List Nd) (f p : L8) : rfM (k :: ks) (d :: ds) f p = f ++ pieM p k d ++ rfM ks ds p p := by rw [rfM]; rfl
theorem rfS_nil (f p : L8) : rfS [] f p = [] := by rw [rfS]
theorem rfM_nil (f p : L8) : rfM [] [] f p = [] := by rw [rfM]; intros; contradiction
theorem rfS_snoc : ∀ (ds : List Nd) (f p : L8) (j : Nat) (hj : j < ds.length), rfS (ds.take (j + 1)) f p = rfS (ds.take j) f p ++ (if j = 0 then f else p) ++ pieS p (ds[j]'hj)
 | d :: ds, f, p, 0, hj => by
  rw [List.take_zero, rfS_nil, if_pos rfl]
  show rfS [d] f p = _
  rw [rfS_cons, rfS_nil]; simp
 | d :: ds, f, p, j + 1, hj => by
  have h := rfS_snoc ds p p j (by simpa using hj)
  rw [List.take_succ_cons, List.take_succ_cons, rfS_cons, rfS_cons, h, show (if j = 0 then p else p) = p by split <;> rfl, if_neg (Nat.succ_ne_zero j)]
  simp
theorem rfM_snoc : ∀ (ks : List L8) (ds : List Nd) (f p : L8) (j : Nat) (hk : j < ks.length) (hj : j < ds.length), rfM (ks.take (j + 1)) (ds.take (j + 1)) f p = rfM (ks.take j) (ds.take j) f p ++ (if j = 0 then f else p) ++ pieM p (ks[j]'hk) (ds[j]'hj)
 | k :: ks, d :: ds, f, p, 0, hk, hj => by
  rw [List.take_zero, List.take_zero, rfM_nil, if_pos rfl]
  show rfM [k] [d] f p = _
  rw [rfM_cons, rfM_nil]; simp
 | k :: ks, d :: ds, f, p, j + 1, hk, hj => by
  have h := rfM_snoc ks ds p p j (by simpa using hk) (by simpa using hj)
  rw [List.take_succ_cons, List.take_succ_cons, List.take_succ_cons, List.take_succ_cons, rfM_cons, rfM_cons, h, show (if j = 0 then p else p) = p by split <;> rfl, if_neg (Nat.succ_ne_zero j)]
  simp
theorem rfS_take : ∀ (ds : List Nd) (f p : L8) (j : Nat), (rfS (ds.take j) f p).length ≤ (rfS ds f p).length
 | [], f, p, j => by rw [List.take_nil]; exact Nat.le_refl _
 | d :: ds, f, p, 0 => by rw [List.take_zero, rfS_nil]; exact Nat.zero_le _
 | d :: ds, f, p, j + 1 => by
  have h := rfS_take ds p p j
  rw [List.take_succ_cons, rfS_cons, rfS_cons, List.length_append, List.length_append]
  simp only [List.length_append]; omega
theorem rfM_take : ∀ (ks : List L8) (ds : List Nd) (f p : L8) (j : Nat), ks.length = ds.length → (rfM (ks.take j) (ds.take j) f p).length ≤ (rfM ks ds f p).length
 | [], [], f, p, j, _ => by rw [List.take_nil, List.take_nil]; exact Nat.le_refl _
 | [], _ :: _, f, p, j, h => by cases h
 | _ :: _, [], f, p, j, h => by cases h
 | k :: ks, d :: ds, f, p, 0, _ => by rw [List.take_zero, List.take_zero, rfM_nil]; exact Nat.zero_le _
 | k :: ks, d :: ds, f, p, j + 1, hl => by
  have h := rfM_take ks ds p p j (by simpa using hl)
  rw [List.take_succ_cons, List.take_succ_cons, rfM_cons, rfM_cons]
  simp only [List.length_append]; omega
theorem rfS_step {ds : List Nd} {f p : L8} {j : Nat} (hj : j < ds.length) : (rfS (ds.take j) f p).length + (if j = 0 then f else p).length + (pieS p (ds[j]'hj)).length ≤ (rfS ds f p).length := by
 have h1 := rfS_snoc ds f p j hj
 have h2 := rfS_take ds f p (j + 1)
 rw [h1] at h2
 simp only [List.length_append] at h2; omega
theorem rfM_step {ks : List L8} {ds : List Nd} {f p : L8} {j : Nat} (hl : ks.length = ds.length) (hk : j < ks.length) (hj : j < ds.length) : (rfM (ks.take j) (ds.take j) f p).length + (if j = 0 then f else p).length + (pieM p (ks[j]'hk) (ds[j]'hj)).length ≤ (rfM ks ds f p).length := by
 have h1 := rfM_snoc ks ds f p j hk hj
 have h2 := rfM_take ks ds f p (j + 1) hl
 rw [h1] at h2
 simp only [List.length_append] at h2 ⊢; omega
theorem wrB_rf {d : Nd} (hf : N8.Fine d) : wrB d = if d.kind = 0 then [] else if d.kind = 1 ∧ marker d.text = true then 34 :: d.text ++ [34, 10] else if shrt d then scal d ++ [10] else rfR d [] [] := by
 unfold wrB
 by_cases h0 : d.kind = 0
 ·rw [if_pos h0, if_pos h0]
 rw [if_neg h0, if_neg h0]
 by_cases h1 : d.kind = 1 ∧ marker d.text = true
 ·rw [if_pos h1, if_pos h1]
  have hm := h1.2
  unfold marker at hm
  rw [Bool.or_eq_true] at hm
  rcases hm with hm | hm
  ·rw [of_decide_eq_true hm]; rfl
  ·rw [of_decide_eq_true hm]; rfl
 rw [if_neg h1, if_neg h1]
 by_cases hs : shrt d = true
 ·rw [if_pos hs, if_pos hs]
 ·rw [if_neg hs, if_neg hs, rf_top hf (by simpa using hs)]
end E11
end Go.Proofs.YtmdgpejedbkkdaaGreatDoor
