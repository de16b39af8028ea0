/- EmiSize, EmiAll, EmiEx, EmiLns -/
import Derived.Test.YtmdgpejedbkkdaaGreatDoorWT19
import Derived.Test.YtmdgpejedbkkdaaGreatDoorWT20
import Derived.Test.YtmdgpejedbkkdaaGreatDoorWT6
set_option linter.unusedVariables false
set_option linter.unusedSimpArgs false
set_option maxRecDepth 100000
set_option maxHeartbeats 16000000
namespace Go.Proofs.YtmdgpejedbkkdaaGreatDoor
namespace E11
open Nw N8 Q6 F9 B10
def sumK : List L8 → Nat
 | [] => 0
 | k :: ks => k.length + sumK ks
mutual
def sumT : Nd → Nat
 | .mk _ t ks ds => t.length + sumK ks + sumL ds
def sumL : List Nd → Nat
 | [] => 0
 | d :: ds => sumT d + sumL ds
end
theorem scw_len (t : L8) : (scw t).length ≤ 4 * t.length + 2 := by
 unfold scw
 split
 ·omega
 ·exact dbl_len t
theorem keyw_len (t : L8) : (keyw t).length ≤ 4 * t.length + 2 := by
 unfold keyw
 split
 ·exact dbl_len t
 ·exact scw_len t
theorem scal_len (d : Nd) : (scal d).length ≤ 4 * sumT d + 4 := by
 obtain ⟨k, t, ks, ds⟩ := d
 have h := scw_len t
 rw [sumT]
 show (if k = 0 then [110, 117, 108, 108] else if k = 1 then scw t else if k = 2 then [91, 93] else [123, 125]).length ≤ _
 by_cases h0 : k = 0
 ·rw [if_pos h0]; show 4 ≤ _; omega
 rw [if_neg h0]
 by_cases h1 : k = 1
 ·rw [if_pos h1]; omega
 rw [if_neg h1]
 by_cases h2 : k = 2
 ·rw [if_pos h2]; show 2 ≤ _; omega
 rw [if_neg h2]; show 2 ≤ _; omega
theorem spn_len (n : Nat) : (spn n).length = n := List.length_replicate
theorem cat_len (q : Nat × L8) (l : List (Nat × L8)) : (cat (q :: l)).length = q.1 + q.2.length + 1 + (cat l).length := by
 rw [cat_cons, List.length_append, List.length_append, List.length_append, spn_len]; rfl
theorem dash_len (p : Nat) (l : List (Nat × L8)) (h : ∀ x ∈ l.head?, x.1 = p + 2) : (cat (dash p l)).length = (cat l).length := by
 cases l with
 | nil => rfl
 | cons x l =>
  have hx : x.1 = p + 2 := h x rfl
  show (cat ((p, 45 :: 32 :: x.2) :: l)).length = _
  rw [cat_len, cat_len, hx]
  show p + (x.2.length + 1 + 1) + 1 + _ = _
  omega
theorem cnt_pos (d : Nd) : 1 ≤ cntT d := by obtain ⟨k, t, ks, ds⟩ := d; rw [cntT]; omega
theorem mul_up {a b c d : Nat} (h1 : a ≤ b) (h2 : c ≤ d) : a * c ≤ b * d := Nat.mul_le_mul h1 h2
theorem size_all : ∀ N : Nat,
  (∀ (d : Nd) (n : Nat), cntT d ≤ N → N8.Fine d → shrt d = false → (cat (rws d n)).length ≤ (cntT d - 1) * (n + 2 * depT d + 20) + 4 * sumT d) ∧
  (∀ (ds : List Nd) (n : Nat), cntL ds ≤ N → (∀ d ∈ ds, N8.Fine d) → (cat (rwS ds n)).length ≤ cntL ds * (n + 2 * depL ds + 22) + 4 * sumL ds) ∧
  (∀ (ds : List Nd) (ks : List L8) (n : Nat), cntL ds ≤ N → ks.length = ds.length → (∀ d ∈ ds, N8.Fine d) → (cat (rwM ks ds n)).length ≤ cntL ds * (n + 2 * depL ds + 22) + 4 * (sumK ks + sumL ds)) := by
 intro N
 induction N with
 | zero =>
  refine ⟨fun d n h => ?_, fun ds n h hf => ?_, fun ds ks n h hl hf => ?_⟩
  ·have := cnt_pos d; omega
  ·cases ds with
   | nil => rw [rwS]; exact Nat.zero_le _
   | cons d ds => rw [cntL] at h; have := cnt_pos d; omega
  ·cases ds with
   | nil =>
    cases ks with
    | nil => rw [rwM]; exact Nat.zero_le _; all_goals (intros; contradiction)
    | cons k ks => cases hl
   | cons d ds => rw [cntL] at h; have := cnt_pos d; omega
 | succ N ih =>
  obtain ⟨ih1, ih2, ih3⟩ := ih
  have tree : ∀ (d : Nd) (n : Nat), cntT d ≤ N + 1 → N8.Fine d → shrt d = false → (cat (rws d n)).length ≤ (cntT d - 1) * (n + 2 * depT d + 20) + 4 * sumT d := by
   intro d n h hf hs
   obtain ⟨k, t, ks, ds⟩ := d
   have hff := hf
   obtain ⟨⟨h0, h3⟩, ht, hk, hd, hfd⟩ := fine_in hf
   rw [cntT] at h ⊢
   rw [depT, sumT, Nat.add_sub_cancel_left, show n + 2 * (1 + depL ds) + 20 = n + 2 * depL ds + 22 by omega]
   unfold shrt at hs
   rw [Bool.or_eq_false_iff] at hs
   have h2 : ¬ k < 2 := of_decide_eq_false hs.1
   by_cases e2 : k = 2
   ·have := ih2 ds n (by omega) hfd
    rw [rws, if_pos e2]; omega
   ·have hl : ks.length = ds.length := by
     cases hff with
     | mk a b c dd ee => exact (dd (by omega)).1
    have := ih3 ds ks n (by omega) hl hfd
    rw [rws, if_neg e2]; omega
  have seq : ∀ (ds : List Nd) (n : Nat), cntL ds ≤ N + 1 → (∀ d ∈ ds, N8.Fine d) → (cat (rwS ds n)).length ≤ cntL ds * (n + 2 * depL ds + 22) + 4 * sumL ds := by
   intro ds
   induction ds with
   | nil => intro n _ _; rw [rwS]; exact Nat.zero_le _
   | cons d ds ihd =>
    intro n h hf
    rw [cntL] at h ⊢
    rw [depL, sumL]
    have hfd := hf d (List.mem_cons_self ..)
    have hr := ihd n (by omega) fun e he => hf e (List.mem_cons_of_mem _ he)
    have hp := cnt_pos d
    have m1 : cntL ds * (n + 2 * depL ds + 22) ≤ cntL ds * (n + 2 * max (depT d) (depL ds) + 22) := mul_up (Nat.le_refl _) (by omega)
    have m2 : 1 * (n + 2 * max (depT d) (depL ds) + 22) ≤ cntT d * (n + 2 * max (depT d) (depL ds) + 22) := mul_up hp (Nat.le_refl _)
    rw [Nat.add_mul]
    by_cases hs : shrt d = true
    ·have hl := scal_len d
     rw [rwS, if_pos hs, cat_app, List.length_append, cat_len]
     show n + ((scal d).length + 1 + 1) + 1 + 0 + _ ≤ _
     omega
    ·have hs' : shrt d = false := by simpa using hs
     have ht := tree d (n + 2) (by omega) hfd hs'
     obtain ⟨t1, tl, h1, _, _⟩ := rws_first _ d (n + 2) (Nat.le_refl _) hfd hs'
     have hd := dash_len n (rws d (n + 2)) (by rw [h1]; intro x hx; cases hx; rfl)
     have m3 : (cntT d - 1) * (n + 2 + 2 * depT d + 20) ≤ cntT d * (n + 2 * max (depT d) (depL ds) + 22) := mul_up (by omega) (by omega)
     rw [rwS, if_neg hs, cat_app, List.length_append, hd]
     omega
  have mp : ∀ (ds : List Nd) (ks : List L8) (n : Nat), cntL ds ≤ N + 1 → ks.length = ds.length → (∀ d ∈ ds, N8.Fine d) → (cat (rwM ks ds n)).length ≤ cntL ds * (n + 2 * depL ds + 22) + 4 * (sumK ks + sumL ds) := by
   intro ds
   induction ds with
   | nil =>
    intro ks n _ hl _
    cases ks with
    | nil => rw [rwM]; exact Nat.zero_le _; all_goals (intros; contradiction)
    | cons k ks => cases hl
   | cons d ds ihd =>
    intro ks n h hl hf
    cases ks with
    | nil => cases hl
    | cons k ks =>
     rw [cntL] at h ⊢
     rw [depL, sumL, sumK]
     have hfd := hf d (List.mem_cons_self ..)
     have hr := ihd ks n (by omega) (by simpa using hl) fun e he => hf e (List.mem_cons_of_mem _ he)
     have hp := cnt_pos d
     have hk := keyw_len k
     have m1 : cntL ds * (n + 2 * depL ds + 22) ≤ cntL ds * (n + 2 * max (depT d) (depL ds) + 22) := mul_up (Nat.le_refl _) (by omega)
     rw [Nat.add_mul]
     by_cases hs : shrt d = true
     ·have hl := scal_len d
      have m2 : 1 * (n + 2 * max (depT d) (depL ds) + 22) ≤ cntT d * (n + 2 * max (depT d) (depL ds) + 22) := mul_up hp (Nat.le_refl _)
      rw [rwM, if_pos hs, cat_app, List.length_append, cat_len]
      show n + (keyw k ++ 58 :: 32 :: scal d).length + 1 + 0 + _ ≤ _
      rw [List.length_append, List.length_cons, List.length_cons]
      omega
     ·have hs' : shrt d = false := by simpa using hs
      have ht := tree d (n + 2) (by omega) hfd hs'
      have m3 : (cntT d - 1) * (n + 2 + 2 * depT d + 20) ≤ (cntT d - 1) * (n + 2 * max (depT d) (depL ds) + 22) := mul_up (Nat.le_refl _) (by omega)
      have m4 : cntT d * (n + 2 * max (depT d) (depL ds) + 22) = (cntT d - 1) * (n + 2 * max (depT d) (depL ds) + 22) + (n + 2 * max (depT d) (depL ds) + 22) := by
       obtain ⟨c, hc⟩ : ∃ c, cntT d = c + 1 := ⟨cntT d - 1, by omega⟩
       rw [hc, Nat.add_sub_cancel, Nat.add_mul, Nat.one_mul]
      rw [rwM, if_neg hs, cat_app, List.length_append, cat_len]
      show n + (keyw k ++ [58]).length + 1 + _ + _ ≤ _
      rw [List.length_append]
      show n + ((keyw k).length + 1) + 1 + _ + _ ≤ _
      omega
  exact ⟨tree, seq, mp⟩
theorem wrB_len {d : Nd} {m : Nat} (hd : okT (m : Int) d = true) : (wrB d).length ≤ m * 44 + 4 * sumT d + 8 := by
 obtain ⟨hf, hc, hdep⟩ := ok_iff.1 hd
 have hsc := scal_len d
 by_cases h0 : d.kind = 0
 ·unfold wrB; rw [if_pos h0]; exact Nat.zero_le _
 by_cases h1 : d.kind = 1 ∧ marker d.text = true
 ·unfold wrB; rw [if_neg h0, if_pos h1]
  have := dbl_len d.text
  obtain ⟨k, t, ks, ds⟩ := d
  rw [sumT, List.length_append]
  show (dblL t).length + 1 ≤ _
  have e : (dblL (Nd.mk k t ks ds).text).length ≤ 4 * t.length + 2 := this
  have e2 : (dblL t).length ≤ 4 * t.length + 2 := e
  omega
 by_cases hs : shrt d = true
 ·unfold wrB; rw [if_neg h0, if_neg h1, if_pos hs, List.length_append]
  show (scal d).length + 1 ≤ _
  omega
 ·have hs' : shrt d = false := by simpa using hs
  have := (size_all _).1 d 0 (Nat.le_refl _) hf hs'
  have m1 : (cntT d - 1) * (0 + 2 * depT d + 20) ≤ m * 44 := mul_up (by omega) (by omega)
  have e : wrB d = cat (rws d 0) := by unfold wrB; rw [if_neg h0, if_neg h1, if_neg hs]; rfl
  rw [e]
  omega
theorem sumK_le : ∀ ks : List L8, (ks.all fun k => decide (k.length ≤ 200)) = true → sumK ks ≤ 200 * ks.length
 | [], _ => Nat.zero_le _
 | k :: ks, h => by
  rw [List.all_cons, Bool.and_eq_true] at h
  have h1 := of_decide_eq_true h.1
  have h2 := sumK_le ks h.2
  rw [sumK, List.length_cons]; omega
mutual
theorem short_sum : ∀ d : Nd, N8.Fine d → shortT d = true → sumT d + 200 ≤ 400 * cntT d
 | .mk k t ks ds, hf, h => by
  have hff := hf
  obtain ⟨_, _, hk, _, hfd⟩ := fine_in hf
  rw [shortT, Bool.and_eq_true, Bool.and_eq_true] at h
  have h1 := of_decide_eq_true h.1.1
  have h2 := sumK_le ks h.1.2
  have h3 := short_sumL ds hfd h.2
  have h4 : ks.length ≤ ds.length := by
   by_cases e : k = 3
   ·cases hff with
    | mk a b c dd ee => rw [(dd e).1]; exact Nat.le_refl _
   ·rw [hk e]; exact Nat.zero_le _
  rw [sumT, cntT]; omega
theorem short_sumL : ∀ ds : List Nd, (∀ d ∈ ds, N8.Fine d) → shortL ds = true → sumL ds + 200 * ds.length ≤ 400 * cntL ds
 | [], _, _ => Nat.le_refl _
 | d :: ds, hf, h => by
  rw [shortL, Bool.and_eq_true] at h
  have h1 := short_sum d (hf d (List.mem_cons_self ..)) h.1
  have h2 := short_sumL ds (fun e he => hf e (List.mem_cons_of_mem _ he)) h.2
  rw [sumL, cntL, List.length_cons]; omega
end
theorem wrB_small {d : Nd} (hd : okT 200 d = true) (hs : shortT d = true) : (wrB d).length ≤ 328808 := by
 have h1 := wrB_len (m := 200) hd
 obtain ⟨hf, hc, _⟩ := ok_iff.1 (show okT ((200 : Nat) : Int) d = true from hd)
 have h2 := short_sum d hf hs
 omega
end E11
end Go.Proofs.YtmdgpejedbkkdaaGreatDoor
namespace Go.Proofs.YtmdgpejedbkkdaaGreatDoor
namespace E11
open Nw N8 Q6 F9 B10
mutual
def allT (M : Nat) : Nd → Prop
 | .mk _ t ks ds => t.length ≤ M ∧ (∀ k ∈ ks, k.length ≤ M) ∧ allL M ds
def allL (M : Nat) : List Nd → Prop
 | [] => True
 | d :: ds => allT M d ∧ allL M ds
end
theorem allL_iff {M : Nat} : ∀ {ds : List Nd}, allL M ds ↔ ∀ d ∈ ds, allT M d
 | [] => by rw [allL]; exact ⟨fun _ d h => (by cases h), fun _ => trivial⟩
 | d :: ds => by
  rw [allL, allL_iff (ds := ds)]
  exact ⟨fun h e he => by rcases List.mem_cons.1 he with rfl | he; exact h.1; exact h.2 e he, fun h => ⟨h d (List.mem_cons_self ..), fun e he => h e (List.mem_cons_of_mem _ he)⟩⟩
theorem all_nul (M : Nat) : allT M nul := ⟨Nat.zero_le _, fun k h => (by cases h), trivial⟩
theorem all_txt {M : Nat} {t : L8} (h : t.length ≤ M) : allT M (txt t) := ⟨h, fun k h => (by cases h), trivial⟩
theorem esc_pos (c : UInt8) : 1 ≤ (esc c).length := by have := (den_esc c []).2.1; omega
theorem escL_ge : ∀ l : L8, l.length ≤ (escL l).length
 | [] => Nat.zero_le _
 | c :: l => by
  have h1 := esc_pos c
  have h2 := escL_ge l
  rw [escL_cons, List.length_append, List.length_cons]; omega
theorem wtx_ge (t : L8) : t.length ≤ (wtx t).length := by
 unfold wtx
 split
 ·exact Nat.le_refl _
 ·have := escL_ge t
  rw [dbl_len1]; omega
theorem wrS_in : ∀ (ds : List Nd), (∀ d ∈ ds, (wrT d).length ≤ (wrS ds).length) ∧ (∀ d ∈ ds, (wrT d).length ≤ (wrSt ds).length)
 | [] => ⟨fun d h => (by cases h), fun d h => (by cases h)⟩
 | e :: ds => by
  have h := (wrS_in ds).2
  rw [wrS, wrSt]
  refine ⟨fun d hd => ?_, fun d hd => ?_⟩
  ·rw [List.length_append]
   rcases List.mem_cons.1 hd with rfl | hd
   ·omega
   ·have := h d hd; omega
  ·rw [List.length_append, List.length_cons, List.length_cons]
   rcases List.mem_cons.1 hd with rfl | hd
   ·omega
   ·have := h d hd; omega
theorem wrM_in : ∀ (ks : List L8) (ds : List Nd), ks.length = ds.length → ((∀ k ∈ ks, k.length ≤ (wrM ks ds).length) ∧ ∀ d ∈ ds, (wrT d).length ≤ (wrM ks ds).length) ∧ ((∀ k ∈ ks, k.length ≤ (wrMt ks ds).length) ∧ ∀ d ∈ ds, (wrT d).length ≤ (wrMt ks ds).length)
 | [], [], _ => ⟨⟨fun k h => (by cases h), fun d h => (by cases h)⟩, ⟨fun k h => (by cases h), fun d h => (by cases h)⟩⟩
 | [], _ :: _, h => by cases h
 | _ :: _, [], h => by cases h
 | x :: ks, e :: ds, h => by
  obtain ⟨_, h1, h2⟩ := wrM_in ks ds (by simpa using h)
  have hx := wtx_ge x
  rw [wrM, wrMt]
  simp only [List.length_append, List.length_cons]
  refine ⟨⟨fun k hk => ?_, fun d hd => ?_⟩, ⟨fun k hk => ?_, fun d hd => ?_⟩⟩
  ·rcases List.mem_cons.1 hk with rfl | hk
   ·omega
   ·have := h1 k hk; omega
  ·rcases List.mem_cons.1 hd with rfl | hd
   ·omega
   ·have := h2 d hd; omega
  ·rcases List.mem_cons.1 hk with rfl | hk
   ·omega
   ·have := h1 k hk; omega
  ·rcases List.mem_cons.1 hd with rfl | hd
   ·omega
   ·have := h2 d hd; omega
theorem wrT_all : ∀ (N : Nat) (d : Nd) (M : Nat), cntT d ≤ N → N8.Fine d → (wrT d).length ≤ M → allT M d
 | 0, d, M, h, _, _ => by have := cnt_pos d; omega
 | N + 1, .mk k t ks ds, M, h, hf, hM => by
  have hff := hf
  obtain ⟨⟨h0, h3⟩, ht, hk, hd, hfd⟩ := fine_in hf
  rw [cntT] at h
  rw [wrT] at hM
  have hin : ∀ e ∈ ds, cntT e ≤ cntL ds := by
   clear h hf hff hM hfd hd
   induction ds with
   | nil => intro e he; cases he
   | cons a ds ih =>
    intro e he
    rw [cntL]
    rcases List.mem_cons.1 he with rfl | he
    ·omega
    ·have := ih e he; omega
  by_cases e0 : k = 0
  ·rw [ht (by omega), hk (by omega), hd (by omega)]
   exact ⟨Nat.zero_le _, fun k h => (by cases h), trivial⟩
  rw [if_neg e0] at hM
  by_cases e1 : k = 1
  ·rw [if_pos e1] at hM
   rw [hk (by omega), hd (by omega)]
   have := wtx_ge t
   exact ⟨by omega, fun k h => (by cases h), trivial⟩
  rw [if_neg e1] at hM
  rw [ht e1]
  by_cases e3 : k = 3
  ·rw [if_pos e3] at hM
   have hl : ks.length = ds.length := by
    cases hff with
    | mk a b c dd ee => exact (dd e3).1
   obtain ⟨⟨a1, a2⟩, _⟩ := wrM_in ks ds hl
   rw [List.length_append, List.length_cons] at hM
   refine ⟨Nat.zero_le _, fun x hx => ?_, allL_iff.2 fun e he => wrT_all N e M ?_ (hfd e he) ?_⟩
   ·have := a1 x hx; omega
   ·have := hin e he; omega
   ·have := a2 e he; omega
  ·rw [if_neg e3] at hM
   rw [hk e3]
   rw [List.length_append, List.length_cons] at hM
   refine ⟨Nat.zero_le _, fun x hx => (by cases hx), allL_iff.2 fun e he => wrT_all N e M ?_ (hfd e he) ?_⟩
   ·have := hin e he; omega
   ·have := (wrS_in ds).1 e he; omega
theorem scl_all {row : Bool} {l : L8} {d : Nd} {M : Nat} (hl : l.length ≤ M) (h : sclS row l = some d) : allT M d := by
 unfold sclS at h
 split at h
 ·injection h with h; subst h; exact all_nul M
 ·split at h
  ·rename_i hq
   cases hs : scnP l with
   | none => rw [hs] at h; cases h
   | some p =>
    rw [hs] at h
    injection h with h; subst h
    obtain ⟨t, n⟩ := p
    have hne : l ≠ [] := by
     rintro rfl
     rw [Bool.and_eq_true] at hq
     exact absurd hq.1 (by decide)
    have := scn_facts hs hne
    exact all_txt (by show t.length ≤ M; omega)
  ·by_cases hb : (if row then rowB l else plainB l) = true
   ·rw [if_pos hb] at h; injection h with h; subst h; exact all_txt hl
   ·rw [if_neg hb] at h; cases h
theorem val_all {l : L8} {no : Nat} {d : Nd} {k B : Nat} (hl : l.length ≤ B) (h : valL l no = .ok d k) : allT (4 + 6 * B) d := by
 unfold valL at h
 split at h
 ·split at h
  ·rename_i hE
   injection h with h1 h2
   subst h1
   cases hP : parP l with
   | none => rw [hP] at hE; exact absurd hE (by decide)
   | some e =>
    rw [hP] at hE
    cases hok : okT 2000 e with
    | true =>
     rw [← (par_yes hok).2]
     have := par_got hP
     exact wrT_all _ e _ (Nat.le_refl _) this.1 (by omega)
    | false =>
     rw [← (par_no hok).1] at hE
     exact absurd hE (by decide)
  ·cases h
 ·split at h
  ·cases h
  ·rename_i hs
   injection h with h1 h2
   subst h1
   exact scl_all (by omega) hs
theorem ent_all {l y r : L8} (h : entP l = some (some (y, r))) : y.length ≤ l.length ∧ r.length ≤ l.length := by
 have h2 := ent_len h
 refine ⟨?_, by omega⟩
 unfold entP at h
 split at h
 ·injection h with h; cases h
 ·split at h
  ·rename_i hq
   split at h
   ·injection h with h; cases h
   ·rename_i t m hs
    split at h
    ·injection h with h; injection h with h; injection h with h1 h2
     subst h1
     have hne : l ≠ [] := by rintro rfl; exact absurd hq (by decide)
     have := scn_facts hs hne
     omega
    ·injection h with h; cases h
  ·split at h
   ·injection h with h; cases h
   ·split at h
    ·injection h with h; injection h with h; injection h with h1 h2
     subst h1
     rw [List.length_take]; omega
    ·cases h
def Lns (B : Nat) (l : List Ln) : Prop := ∀ y ∈ l, y.text.length ≤ B
theorem Lns.drop {B : Nat} {l : List Ln} (h : Lns B l) (k : Nat) : Lns B (l.drop k) := fun y hy => h y (List.mem_of_mem_drop hy)
theorem Lns.tail {B : Nat} {x : Ln} {l : List Ln} (h : Lns B (x :: l)) : Lns B l := fun y hy => h y (List.mem_cons_of_mem _ hy)
theorem Lns.cut {B : Nat} {x : Ln} {l : List Ln} (h : Lns B (x :: l)) : Lns B (cut1 x :: l) := by
 intro y hy
 rcases List.mem_cons.1 hy with rfl | hy
 ·have h1 := h x (List.mem_cons_self ..)
  show (x.text.drop _).length ≤ B
  rw [List.length_drop]; omega
 ·exact h y (List.mem_cons_of_mem _ hy)
theorem all_snoc {M : Nat} {ad : List Nd} {d : Nd} (h : ∀ e ∈ ad, allT M e) (hd : allT M d) : ∀ e ∈ ad ++ [d], allT M e := fun e he => by
 rcases List.mem_append.1 he with he | he
 ·exact h e he
 ·rw [List.mem_singleton.1 he]; exact hd
theorem blk_all (B : Nat) : ∀ (N : Nat),
  (∀ x l, 2 * big (x :: l) + 1 ≤ N → Lns B (x :: l) → ∀ d k, blkB (x :: l) = .ok d k → allT (4 + 6 * B) d) ∧
  (∀ n ad l, 2 * big l ≤ N → Lns B l → (∀ e ∈ ad, allT (4 + 6 * B) e) → ∀ d k, seqB n ad l = .ok d k → allT (4 + 6 * B) d) ∧
  (∀ n ak ad l, 2 * big l ≤ N → Lns B l → (∀ y ∈ ak, y.length ≤ 4 + 6 * B) → (∀ e ∈ ad, allT (4 + 6 * B) e) → ∀ d k, mapB n ak ad l = .ok d k → allT (4 + 6 * B) d) := by
 intro N
 have seq0 : ∀ {ad : List Nd}, (∀ e ∈ ad, allT (4 + 6 * B) e) → allT (4 + 6 * B) (.mk 2 [] [] ad) := fun h => ⟨Nat.zero_le _, fun k h => (by cases h), allL_iff.2 h⟩
 have map0 : ∀ {ak : List L8} {ad : List Nd}, (∀ y ∈ ak, y.length ≤ 4 + 6 * B) → (∀ e ∈ ad, allT (4 + 6 * B) e) → allT (4 + 6 * B) (.mk 3 [] ak ad) := fun h1 h => ⟨Nat.zero_le _, h1, allL_iff.2 h⟩
 induction N with
 | zero =>
  refine ⟨fun x l h => absurd h (by omega), fun n ad l h hl ha d k hk => ?_, fun n ak ad l h hl hy ha d k hk => ?_⟩
  ·cases l with
   | nil => rw [seq_nil] at hk; injection hk with h1 h2; subst h1; exact seq0 ha
   | cons x l => simp only [big] at h; omega
  ·cases l with
   | nil => rw [map_nil] at hk; injection hk with h1 h2; subst h1; exact map0 hy ha
   | cons x l => simp only [big] at h; omega
 | succ N ih =>
  obtain ⟨ih1, ih2, ih3⟩ := ih
  refine ⟨fun x l h hl d k hk => ?_, fun n ad l h hl ha d k hk => ?_, fun n ak ad l h hl hya ha d k hk => ?_⟩
  ·cases hh : hyp x.text with
   | true =>
    rw [blk_seq hh] at hk
    exact ih2 x.ind [] (x :: l) (by omega) hl (fun e he => by cases he) d k hk
   | false =>
    cases he : entP x.text with
    | none => rw [blk_bad hh he] at hk; cases hk
    | some o =>
     cases o with
     | none => rw [blk_val hh he] at hk; exact val_all (hl x (List.mem_cons_self ..)) hk
     | some p =>
      rw [blk_map hh he] at hk
      exact ih3 x.ind [] [] (x :: l) (by omega) hl (fun e he => by cases he) (fun e he => by cases he) d k hk
  ·cases l with
   | nil => rw [seq_nil] at hk; injection hk with h1 h2; subst h1; exact seq0 ha
   | cons x l =>
    have hbig : big (x :: l) = 1 + x.text.length + big l := rfl
    rcases Nat.lt_trichotomy x.ind n with hlt | heq | hgt
    ·rw [seq_low hlt] at hk; injection hk with h1 h2; subst h1; exact seq0 ha
    ·cases hh : hyp x.text with
     | false => rw [seq_other heq hh] at hk; injection hk with h1 h2; subst h1; exact seq0 ha
     | true =>
      rw [seq_kid heq hh] at hk
      have hkid : ∀ d2 k2, kidS n x l = .ok d2 k2 → allT (4 + 6 * B) d2 := fun d2 k2 h2 => by
       unfold kidS at h2
       split at h2
       ·rename_i h1
        have hc := cut1_lt h1
        exact ih1 (cut1 x) l (by simp only [big]; omega) hl.cut d2 k2 h2
       ·split at h2
        ·cases l with
         | nil => rename_i hdp; cases hdp
         | cons z l =>
          obtain ⟨m, hm1, _⟩ := more_ok h2
          exact ih1 z l (by simp only [big] at h ⊢; omega) hl.tail d2 m hm1
        ·injection h2 with h3 h4; subst h3; exact all_nul _
      cases hkr : kidS n x l with
      | bad no e => rw [hkr] at hk; cases hk
      | ok d2 k2 =>
       rw [hkr] at hk
       obtain ⟨m, hm1, _⟩ := more_ok hk
       have hb := big_drop (k2 - 1) l
       exact ih2 n (ad ++ [d2]) (l.drop (k2 - 1)) (by omega) (hl.tail.drop _) (all_snoc ha (hkid d2 k2 hkr)) d m hm1
    ·rw [seq_high hgt] at hk; cases hk
  ·cases l with
   | nil => rw [map_nil] at hk; injection hk with h1 h2; subst h1; exact map0 hya ha
   | cons x l =>
    have hbig : big (x :: l) = 1 + x.text.length + big l := rfl
    have hx := hl x (List.mem_cons_self ..)
    rcases Nat.lt_trichotomy x.ind n with hlt | heq | hgt
    ·rw [map_low hlt] at hk; injection hk with h1 h2; subst h1; exact map0 hya ha
    ·cases he : entP x.text with
     | none => rw [map_bad heq he] at hk; cases hk
     | some o =>
      cases o with
      | none => rw [map_other heq he] at hk; injection hk with h1 h2; subst h1; exact map0 hya ha
      | some p =>
       obtain ⟨y, r⟩ := p
       by_cases hy : y ∈ ak
       ·rw [map_twice heq he hy] at hk; cases hk
       ·rw [map_kid heq he hy] at hk
        have hel := ent_all he
        have hkid : ∀ d2 k2, kidM n x l r = .ok d2 k2 → allT (4 + 6 * B) d2 := fun d2 k2 h2 => by
         unfold kidM at h2
         split at h2
         ·exact val_all (by omega) h2
         ·split at h2
          ·cases l with
           | nil => rename_i hdp; cases hdp
           | cons z l =>
            obtain ⟨m, hm1, _⟩ := more_ok h2
            exact ih1 z l (by simp only [big] at h ⊢; omega) hl.tail d2 m hm1
          ·injection h2 with h3 h4; subst h3; exact all_nul _
        cases hkr : kidM n x l r with
        | bad no e => rw [hkr] at hk; cases hk
        | ok d2 k2 =>
         rw [hkr] at hk
         obtain ⟨m, hm1, _⟩ := more_ok hk
         have hb := big_drop (k2 - 1) l
         refine ih3 n (ak ++ [y]) (ad ++ [d2]) (l.drop (k2 - 1)) (by omega) (hl.tail.drop _) (fun z hz => ?_) (all_snoc ha (hkid d2 k2 hkr)) d m hm1
         rcases List.mem_append.1 hz with hz | hz
         ·exact hya z hz
         ·rw [List.mem_singleton.1 hz]; omega
    ·rw [map_high hgt] at hk; cases hk
theorem par_all (l : L8) : allT 49156 (parB l).1 ∧ okT 2000 (parB l).1 = true := by
 obtain ⟨ls, no, E, hf⟩ : ∃ ls no E, fileL l = (ls, no, E) := ⟨_, _, _, rfl⟩
 have hnul : allT 49156 nul ∧ okT 2000 nul = true := ⟨all_nul _, ok_iff.2 ⟨(got_nul 0).1, by decide, by decide⟩⟩
 by_cases hE : E = 0
 ·subst hE
  have hsm := (file_small hf).2
  cases ls with
  | nil => rw [par_nil hf]; exact hnul
  | cons x ls =>
   rw [par_cons hf]
   cases hb : blkB (x :: ls) with
   | bad no e => exact hnul
   | ok d k =>
    by_cases hk : k < (x :: ls).length
    ·rw [parK_low hk]; exact hnul
    ·rw [parK_end (by omega)]
     by_cases ho : okT 2000 d = true
     ·rw [if_pos ho]
      exact ⟨(blk_all 8192 _).1 x ls (Nat.le_refl _) (fun y hy => by have := hsm y hy; omega) d k hb, ho⟩
     ·rw [if_neg ho]; exact hnul
 ·rw [par_err hf hE]; exact hnul
end E11
end Go.Proofs.YtmdgpejedbkkdaaGreatDoor
namespace Go.Proofs.YtmdgpejedbkkdaaGreatDoor
namespace E11
open Nw N8 Q6 F9 B10
def exI : Nd := .mk 2 [] [] [txt [120], .mk 3 [] [[98], [99]] [txt [121], nul]]
def exE : Nd := .mk 3 [] [[97]] [exI]
def exV : L8 := [91, 120, 44, 32, 123, 98, 58, 32, 121, 44, 32, 99, 58, 32, 110, 117, 108, 108, 125, 93]
def exS : L8 := [97, 58, 32, 91, 120, 44, 32, 123, 98, 58, 32, 121, 44, 32, 99, 58, 32, 110, 117, 108, 108, 125, 93]
def exW : L8 := [97, 58, 10, 32, 32, 45, 32, 120, 10, 32, 32, 45, 32, 98, 58, 32, 121, 10, 32, 32, 32, 32, 99, 58, 32, 110, 117, 108, 108, 10]
theorem ex_flow : parP exV = some exI := by kernel_rfl
theorem ok_exI : okT 2000 exI = true := ok_iff.2 ⟨(par_got ex_flow).1, by decide, by decide⟩
theorem ex_val (no : Nat) : valL exV no = .ok exI 1 := by
 unfold valL
 rw [ex_flow, ← (par_yes ok_exI).1, ← (par_yes ok_exI).2]; rfl
theorem ex_ent : entP exS = some (some ([97], exV)) := by kernel_rfl
theorem ex_file : fileL exS = ([⟨1, 0, exS⟩], 0, 0) := by kernel_rfl
theorem ex_blk11 : blkB [⟨1, 0, exS⟩] = .ok exE 1 := by
 rw [blk_map (x := ⟨1, 0, exS⟩) rfl ex_ent, map_kid (x := ⟨1, 0, exS⟩) rfl ex_ent List.not_mem_nil, kid_val (by decide), ex_val]
 show (mapB 0 [[97]] [exI] []).more 1 = _
 rw [map_nil]; rfl
theorem ok_exE : okT 2000 exE = true := ok_iff.2 ⟨(blk_fine ex_blk11).1, by decide, by decide⟩
theorem ex_par11 : parB exS = (exE, 0, 0) := by
 rw [par_cons ex_file, ex_blk11, parK_end (L := [⟨1, 0, exS⟩]) (k := 1) (Nat.le_refl 1), if_pos ok_exE]
theorem ex_wr : wrB exE = exW := by kernel_rfl
def nlN (l : L8) : Nat := (l.filter fun c => decide (c = 10)).length
theorem ex_nl : nlN exW = 4 := by decide
theorem nl_app (a b : L8) : nlN (a ++ b) = nlN a + nlN b := by unfold nlN; rw [List.filter_append, List.length_append]
theorem nl_step {l : L8} {k : Nat} (hk : k < l.length) : nlN (l.take (k + 1)) = nlN (l.take k) + if l.getD k 0 = 10 then 1 else 0 := by
 rw [List.take_add_one, List.getElem?_eq_getElem hk, nl_app, List.getD_eq_getElem?_getD, List.getElem?_eq_getElem hk]
 show _ + nlN [l[k]] = _ + if l[k] = 10 then 1 else 0
 unfold nlN
 by_cases h : l[k] = 10
 ·rw [if_pos h]; simp [h]
 ·rw [if_neg h]; simp [h]
theorem nl_le (l : L8) : nlN l ≤ l.length := by unfold nlN; exact List.length_filter_le _ _
end E11
end Go.Proofs.YtmdgpejedbkkdaaGreatDoor
namespace Go.Proofs.YtmdgpejedbkkdaaGreatDoor
namespace E11
open Nw N8 Q6 F9 B10
def dsh : List L8 → List L8
 | [] => []
 | x :: l => ([45, 32] ++ x) :: l.map fun y => [32, 32] ++ y
mutual
def lnT : Nd → List L8
 | .mk k t ks ds => if shrt (.mk k t ks ds) then [scal (.mk k t ks ds)] else if k = 2 then lnS ds else lnM ks ds
def lnS : List Nd → List L8
 | [] => []
 | d :: ds => dsh (lnT d) ++ lnS ds
def lnM : List L8 → List Nd → List L8
 | k :: ks, d :: ds => (if shrt d then [keyw k ++ [58] ++ [32] ++ scal d] else (keyw k ++ [58]) :: (lnT d).map fun y => [32, 32] ++ y) ++ lnM ks ds
 | _, _ => []
end
def flL (d : Nd) : List L8 := if d.kind = 0 then [] else if d.kind = 1 ∧ marker d.text = true then [dblL d.text] else lnT d
def withLf (l : List L8) : L8 := (l.map fun x => x ++ [10]).flatten
theorem withLf_snoc (l : List L8) (x : L8) : withLf (l ++ [x]) = withLf l ++ (x ++ [10]) := by unfold withLf; simp
theorem withLf_cons (x : L8) (l : List L8) : withLf (x :: l) = (x ++ [10]) ++ withLf l := by unfold withLf; simp
theorem withLf_pre {pre xs : List L8} (h : pre <+: xs) : (withLf pre).length ≤ (withLf xs).length := by
 obtain ⟨r, rfl⟩ := h
 unfold withLf
 rw [List.map_append, List.flatten_append, List.length_append]
 omega
theorem dsh_snoc (pre : List L8) (x : L8) : dsh (pre ++ [x]) = dsh pre ++ [(if pre = [] then [45, 32] else [32, 32]) ++ x] := by
 cases pre with
 | nil => rfl
 | cons y l => rw [if_neg (by simp)]; simp [dsh]
theorem dsh_pre {pre xs : List L8} (h : pre <+: xs) : dsh pre <+: dsh xs := by
 obtain ⟨r, rfl⟩ := h
 cases pre with
 | nil => exact List.nil_prefix
 | cons y l => exact ⟨r.map fun y => [32, 32] ++ y, by simp [dsh]⟩
theorem lnS_take : ∀ (ds : List Nd) (j : Nat) (hj : j < ds.length), lnS (ds.take (j + 1)) = lnS (ds.take j) ++ dsh (lnT (ds[j]'hj)) ∧ lnS (ds.take (j + 1)) <+: lnS ds
 | d :: ds, 0, _ => by
  show lnS [d] = lnS [] ++ dsh (lnT d) ∧ lnS [d] <+: lnS (d :: ds)
  rw [lnS, lnS, lnS, List.append_nil, List.nil_append]
  exact ⟨rfl, ⟨_, rfl⟩⟩
 | d :: ds, j + 1, hj => by
  obtain ⟨h1, h2⟩ := lnS_take ds j (Nat.lt_of_succ_lt_succ hj)
  show lnS (d :: ds.take (j + 1)) = lnS (d :: ds.take j) ++ dsh (lnT (ds[j]'_)) ∧ lnS (d :: ds.take (j + 1)) <+: lnS (d :: ds)
  rw [lnS, lnS, lnS, h1, List.append_assoc]
  refine ⟨rfl, ?_⟩
  rw [← h1]
  exact (List.prefix_append_right_inj _).2 h2
def entL (h : L8) (d : Nd) : List L8 := if shrt d then [h ++ [32] ++ scal d] else h :: (lnT d).map fun y => [32, 32] ++ y
theorem lnM_take : ∀ (ks : List L8) (ds : List Nd) (j : Nat) (hk : j < ks.length) (hj : j < ds.length), lnM (ks.take (j + 1)) (ds.take (j + 1)) = lnM (ks.take j) (ds.take j) ++ entL (keyw (ks[j]'hk) ++ [58]) (ds[j]'hj) ∧ lnM (ks.take (j + 1)) (ds.take (j + 1)) <+: lnM ks ds
 | k :: ks, d :: ds, 0, _, _ => by
  show lnM [k] [d] = lnM [] [] ++ entL (keyw k ++ [58]) d ∧ lnM [k] [d] <+: lnM (k :: ks) (d :: ds)
  rw [lnM, lnM, show lnM [] [] = [] by rw [lnM]; intros; contradiction, List.append_nil, List.nil_append]
  exact ⟨rfl, ⟨_, rfl⟩⟩
 | k :: ks, d :: ds, j + 1, hk, hj => by
  obtain ⟨h1, h2⟩ := lnM_take ks ds j (Nat.lt_of_succ_lt_succ hk) (Nat.lt_of_succ_lt_succ hj)
  show lnM (k :: ks.take (j + 1)) (d :: ds.take (j + 1)) = lnM (k :: ks.take j) (d :: ds.take j) ++ entL (keyw (ks[j]'_) ++ [58]) (ds[j]'_) ∧ lnM (k :: ks.take (j + 1)) (d :: ds.take (j + 1)) <+: lnM (k :: ks) (d :: ds)
  rw [lnM, lnM, lnM, h1]
  refine ⟨(List.append_assoc _ _ _).symm, ?_⟩
  rw [← h1]
  exact (List.prefix_append_right_inj _).2 h2
def indL (q : Nat × L8) : L8 := spn q.1 ++ q.2
theorem lnT_short {d : Nd} (h : shrt d = true) : lnT d = [scal d] := by
 obtain ⟨k, t, ks, ds⟩ := d
 rw [lnT, if_pos h]
theorem lnT_long {k : Int} {t : L8} {ks : List L8} {ds : List Nd} (h : shrt (.mk k t ks ds) = false) : lnT (.mk k t ks ds) = if k = 2 then lnS ds else lnM ks ds := by
 rw [lnT, if_neg (by rw [h]; decide)]
theorem spn_add (p q : Nat) : spn (p + q) = spn p ++ spn q := by unfold spn; exact List.replicate_append_replicate.symm
theorem two_spn (p : Nat) (y : L8) : spn (p + 2) ++ y = spn p ++ ([32, 32] ++ y) := by rw [spn_add, List.append_assoc]; rfl
mutual
theorem rws_lines : ∀ (d : Nd) (p : Nat), Fine d → shrt d = false → (rws d p).map indL = (lnT d).map fun y => spn p ++ y
 | .mk k t ks ds, p, hf, hs => by
  obtain ⟨_, _, _, _, hfd⟩ := fine_in hf
  rw [lnT_long hs, rws]
  by_cases h2 : k = 2
  ·rw [if_pos h2, if_pos h2]; exact rwS_lines ds p hfd
  ·rw [if_neg h2, if_neg h2]; exact rwM_lines ks ds p hfd
theorem rwS_lines : ∀ (ds : List Nd) (p : Nat), (∀ d ∈ ds, Fine d) → (rwS ds p).map indL = (lnS ds).map fun y => spn p ++ y
 | [], p, _ => by rw [rwS, lnS]; rfl
 | d :: ds, p, hf => by
  have hd : Fine d := hf d List.mem_cons_self
  rw [rwS, lnS, List.map_append, List.map_append, rwS_lines ds p (fun e he => hf e (List.mem_cons_of_mem _ he))]
  congr 1
  by_cases hs : shrt d = true
  ·rw [if_pos hs, lnT_short hs]; rfl
  ·have hs0 : shrt d = false := Bool.eq_false_iff.2 hs
   have ih := rws_lines d (p + 2) hd hs0
   obtain ⟨u, tl, he, _, _⟩ := rws_first (cntT d) d (p + 2) (Nat.le_refl _) hd hs0
   rw [if_neg hs, he]
   rw [he] at ih
   cases hl : lnT d with
   | nil => rw [hl] at ih; cases ih
   | cons y r =>
    rw [hl] at ih
    simp only [List.map_cons, List.cons.injEq] at ih
    obtain ⟨h1, h2⟩ := ih
    have h1 : u = y := List.append_cancel_left (show spn (p + 2) ++ u = spn (p + 2) ++ y from h1)
    subst h1
    show indL (p, 45 :: 32 :: u) :: tl.map indL = _
    rw [h2]
    simp only [dsh, List.map_cons, List.map_map]
    exact List.cons_eq_cons.2 ⟨rfl, List.map_congr_left fun z _ => two_spn p z⟩
theorem rwM_lines : ∀ (ks : List L8) (ds : List Nd) (p : Nat), (∀ d ∈ ds, Fine d) → (rwM ks ds p).map indL = (lnM ks ds).map fun y => spn p ++ y
 | k :: ks, d :: ds, p, hf => by
  have hd : Fine d := hf d List.mem_cons_self
  rw [rwM, lnM, List.map_append, List.map_append, rwM_lines ks ds p (fun e he => hf e (List.mem_cons_of_mem _ he))]
  congr 1
  by_cases hs : shrt d = true
  ·rw [if_pos hs, if_pos hs]
   show [spn p ++ (keyw k ++ 58 :: 32 :: scal d)] = [spn p ++ (keyw k ++ [58] ++ [32] ++ scal d)]
   simp
  ·have hs0 : shrt d = false := Bool.eq_false_iff.2 hs
   have ih := rws_lines d (p + 2) hd hs0
   rw [if_neg hs, if_neg hs]
   simp only [List.map_cons, ih, List.map_map]
   exact List.cons_eq_cons.2 ⟨rfl, List.map_congr_left fun z _ => two_spn p z⟩
 | [], ds, p, _ => by
  rw [rwM, lnM]
  ·rfl
  ·intros; contradiction
  ·intros; contradiction
 | _ :: _, [], p, _ => by
  rw [rwM, lnM]
  ·rfl
  ·intros; contradiction
  ·intros; contradiction
end
theorem wrB_lines {d : Nd} (hf : Fine d) : wrB d = withLf (flL d) := by
 unfold wrB flL
 by_cases h0 : d.kind = 0
 ·rw [if_pos h0, if_pos h0]; rfl
 ·rw [if_neg h0, if_neg h0]
  by_cases h1 : d.kind = 1 ∧ marker d.text = true
  ·rw [if_pos h1, if_pos h1]; unfold withLf; simp
  ·rw [if_neg h1, if_neg h1]
   by_cases hs : shrt d = true
   ·rw [if_pos hs, lnT_short hs]; unfold withLf; simp
   ·have hs0 : shrt d = false := Bool.eq_false_iff.2 hs
    have h := rws_lines d 0 hf hs0
    have h2 : (lnT d).map (fun y => spn 0 ++ y) = lnT d := by
     have : (fun y : L8 => spn 0 ++ y) = id := by funext y; rfl
     rw [this, List.map_id]
    rw [h2] at h
    rw [if_neg hs, ← h]
    unfold withLf
    rw [List.map_map]
    rfl
theorem nl_clean {l : L8} (h : ∀ c ∈ l, c ≠ 10) : nlN l = 0 := by
 unfold nlN
 rw [List.length_eq_zero_iff, List.filter_eq_nil_iff]
 intro c hc
 simpa using h c hc
theorem nl_lf : ∀ {l : List L8}, (∀ x ∈ l, ∀ c ∈ x, c ≠ 10) → nlN (withLf l) = l.length
 | [], _ => rfl
 | x :: l, h => by
  rw [withLf_cons, nl_app, nl_app, nl_clean (h x List.mem_cons_self), nl_lf (fun y hy => h y (List.mem_cons_of_mem _ hy))]
  show 0 + 1 + l.length = l.length + 1
  omega
theorem clean_map {l : List L8} {u : L8} (h : ∀ x ∈ l, ∀ c ∈ x, c ≠ 10) (hu : ∀ c ∈ u, c ≠ 10) : ∀ x ∈ l.map (fun y => u ++ y), ∀ c ∈ x, c ≠ 10 := by
 intro x hx c hc
 obtain ⟨y, hy, rfl⟩ := List.mem_map.1 hx
 rcases List.mem_append.1 hc with hc | hc
 ·exact hu c hc
 ·exact h y hy c hc
theorem sp_clean : ∀ c ∈ ([32, 32] : L8), c ≠ 10 := by decide
theorem dsh_clean {l : List L8} (h : ∀ x ∈ l, ∀ c ∈ x, c ≠ 10) : ∀ x ∈ dsh l, ∀ c ∈ x, c ≠ 10 := by
 cases l with
 | nil => intro x hx; cases hx
 | cons y r =>
  intro x hx
  rcases List.mem_cons.1 hx with rfl | hx
  ·intro c hc
   rcases List.mem_append.1 hc with hc | hc
   ·exact (by decide : ∀ c ∈ ([45, 32] : L8), c ≠ 10) c hc
   ·exact h y List.mem_cons_self c hc
  ·exact clean_map (fun z hz => h z (List.mem_cons_of_mem _ hz)) sp_clean x hx
mutual
theorem lnT_clean : ∀ (d : Nd), ∀ x ∈ lnT d, ∀ c ∈ x, c ≠ 10
 | .mk k t ks ds => by
  intro x hx
  rw [lnT] at hx
  by_cases hs : shrt (.mk k t ks ds) = true
  ·rw [if_pos hs] at hx
   rw [List.mem_singleton.1 hx]
   exact (ok_scal _).no10
  ·rw [if_neg hs] at hx
   by_cases h2 : k = 2
   ·rw [if_pos h2] at hx; exact lnS_clean ds x hx
   ·rw [if_neg h2] at hx; exact lnM_clean ks ds x hx
theorem lnS_clean : ∀ (ds : List Nd), ∀ x ∈ lnS ds, ∀ c ∈ x, c ≠ 10
 | [] => by intro x hx; rw [lnS] at hx; cases hx
 | d :: ds => by
  intro x hx
  rw [lnS] at hx
  rcases List.mem_append.1 hx with hx | hx
  ·exact dsh_clean (lnT_clean d) x hx
  ·exact lnS_clean ds x hx
theorem lnM_clean : ∀ (ks : List L8) (ds : List Nd), ∀ x ∈ lnM ks ds, ∀ c ∈ x, c ≠ 10
 | k :: ks, d :: ds => by
  intro x hx
  rw [lnM] at hx
  rcases List.mem_append.1 hx with hx | hx
  ·by_cases hs : shrt d = true
   ·rw [if_pos hs] at hx
    rw [List.mem_singleton.1 hx]
    have := (ok_key2 k (ok_scal d)).no10
    simpa using this
   ·rw [if_neg hs] at hx
    rcases List.mem_cons.1 hx with rfl | hx
    ·exact (ok_key1 k).no10
    ·exact clean_map (lnT_clean d) sp_clean x hx
  ·exact lnM_clean ks ds x hx
 | [], ds => by intro x hx; rw [lnM] at hx; cases hx; intros; contradiction
 | _ :: _, [] => by intro x hx; rw [lnM] at hx; cases hx; intros; contradiction
end
theorem mark_text {t : L8} (h : marker t = true) : t = [45, 45, 45] ∨ t = [46, 46, 46] := by
 unfold marker at h
 simpa using h
theorem dbl_mark {t : L8} (h : marker t = true) : dblL t = 34 :: t ++ [34] := by
 rcases mark_text h with rfl | rfl <;> decide
theorem flL_clean (d : Nd) : ∀ x ∈ flL d, ∀ c ∈ x, c ≠ 10 := by
 unfold flL
 by_cases h0 : d.kind = 0
 ·rw [if_pos h0]; intro x hx; cases hx
 ·rw [if_neg h0]
  by_cases h1 : d.kind = 1 ∧ marker d.text = true
  ·rw [if_pos h1]
   intro x hx
   rw [List.mem_singleton.1 hx, dbl_mark h1.2]
   rcases mark_text h1.2 with e | e <;> rw [e] <;> decide
  ·rw [if_neg h1]; exact lnT_clean d
theorem wrB_count {d : Nd} (hf : Fine d) : nlN (wrB d) = (flL d).length := by rw [wrB_lines hf]; exact nl_lf (flL_clean d)
theorem line_le {l : List L8} {x : L8} (h : x ∈ l) : x.length ≤ (withLf l).length := by
 induction l with
 | nil => cases h
 | cons y r ih =>
  rw [withLf_cons, List.length_append, List.length_append]
  rcases List.mem_cons.1 h with rfl | h
  ·omega
  ·have := ih h; omega
end E11
end Go.Proofs.YtmdgpejedbkkdaaGreatDoor
