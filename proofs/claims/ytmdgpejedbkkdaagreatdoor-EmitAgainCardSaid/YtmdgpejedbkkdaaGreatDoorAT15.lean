/- BloCount, EmiAll -/
import Derived.Test.YtmdgpejedbkkdaaGreatDoorAT14
import Derived.Test.YtmdgpejedbkkdaaGreatDoorAT5
import Derived.Test.YtmdgpejedbkkdaaGreatDoorAT6
set_option linter.unusedVariables false
set_option linter.unusedSimpArgs false
set_option maxRecDepth 100000
set_option maxHeartbeats 16000000
namespace Go.Proofs.YtmdgpejedbkkdaaGreatDoor
namespace B10
open Nw N8 Q6 F9
theorem fine_txt9 (t : L8) : Fine (txt t) := (got_txt (m := (wtx t).length) (by omega)).1
theorem scl_fine {row : Bool} {l : L8} {d : Nd} (h : sclS row l = some d) : Fine d ∧ cntT d = 1 := by
 unfold sclS at h
 split at h
 ·injection h with h; subst h; exact ⟨(got_nul 0).1, rfl⟩
 ·split at h
  ·cases hs : scnP l with
   | none => rw [hs] at h; cases h
   | some p =>
    rw [hs] at h
    injection h with h; subst h
    exact ⟨fine_txt9 _, by unfold txt; rw [cntT, cntL]⟩
  ·by_cases hb : (if row then rowB l else plainB l) = true
   ·rw [if_pos hb] at h; injection h with h; subst h; exact ⟨fine_txt9 _, by unfold txt; rw [cntT, cntL]⟩
   ·rw [if_neg hb] at h; cases h
theorem val_fine {l : L8} {no : Nat} {d : Nd} {k : Nat} (h : valL l no = .ok d k) : Fine d ∧ cntT d ≤ l.length + 1 := by
 unfold valL at h
 split at h
 ·split at h
  ·rename_i hE
   injection h with h1 h2
   subst h1
   cases hP : parP l with
   | none => rw [hP] at hE; exact absurd hE (by decide)
   | some e =>
    rw [hP] at hE
    cases hok : okT 2000 e with
    | true =>
     rw [← (par_yes hok).2]
     have := par_got hP
     exact ⟨this.1, this.2.1⟩
    | false =>
     rw [← (par_no hok).1] at hE
     exact absurd hE (by decide)
  ·cases h
 ·split at h
  ·cases h
  ·rename_i hs
   injection h with h1 h2
   subst h1
   have := scl_fine hs
   exact ⟨this.1, by omega⟩
theorem mrk_lt {l : L8} {k : Nat} (h : mrk l k = true) : k < l.length := by
 unfold mrk at h
 rw [Bool.and_eq_true] at h
 rcases Nat.lt_or_ge k l.length with g | g
 ·exact g
 ·have h1 := of_decide_eq_true h.1
  rw [List.getD_eq_getElem?_getD, List.getElem?_eq_none g] at h1
  exact absurd h1 (by decide)
theorem bhd_len {l : L8} {k : Nat} (h : k < l.length) : (bhd l k).length + 1 ≤ l.length := by
 unfold bhd
 rw [List.length_drop]
 omega
theorem fst_mrk : ∀ (n : Nat) (l : L8) (k j : Nat), l.length - k ≤ n → fstM l k = some j → mrk l j = true
 | 0, l, k, j, hn, h => by
  rw [fstM, dif_neg (by omega)] at h; cases h
 | n + 1, l, k, j, hn, h => by
  rw [fstM] at h
  split at h
  ·split at h
   ·injection h with h; subst h; assumption
   ·exact fst_mrk n l (k + 1) j (by omega) h
  ·cases h
theorem ent_len {l y r : L8} (h : entP l = some (some (y, r))) : r.length + 1 ≤ l.length := by
 unfold entP at h
 split at h
 ·injection h with h; cases h
 ·split at h
  ·split at h
   ·injection h with h; cases h
   ·split at h
    ·rename_i hm
     injection h with h; injection h with h; injection h with h1 h2
     subst h2
     exact bhd_len (mrk_lt hm)
    ·injection h with h; cases h
  ·split at h
   ·injection h with h; cases h
   ·rename_i k hk
    split at h
    ·injection h with h; injection h with h; injection h with h1 h2
     subst h2
     exact bhd_len (mrk_lt (fst_mrk _ l 0 k (Nat.le_refl _) hk))
    ·cases h
theorem hyp_len {l : L8} (h : hyp l = true) : 1 ≤ l.length := by
 cases l with
 | nil => exact absurd h (by decide)
 | cons c l => simp
def KidOk (x : Ln) (l : List Ln) (d : Nd) (k : Nat) : Prop := 1 ≤ k ∧ k ≤ l.length + 1 ∧ Fine d ∧ cntT d + 1 + big (l.drop (k - 1)) ≤ big (x :: l)
def SeqOk (ad : List Nd) (l : List Ln) (d : Nd) (k : Nat) (ds : List Nd) : Prop := d = .mk 2 [] [] (ad ++ ds) ∧ (∀ e ∈ ds, Fine e) ∧ cntL ds + ds.length + big (l.drop k) ≤ big l
def MapOk (ak : List L8) (ad : List Nd) (l : List Ln) (d : Nd) (k : Nat) (ks : List L8) (ds : List Nd) : Prop := d = .mk 3 [] (ak ++ ks) (ad ++ ds) ∧ ks.length = ds.length ∧ (Once ak → Once (ak ++ ks)) ∧ (∀ e ∈ ds, Fine e) ∧ cntL ds + ds.length + big (l.drop k) ≤ big l
theorem kid_more {z : Ln} {l : List Ln} {x : Ln} {d : Nd} {k : Nat} (ih : ∀ d m, blkB (z :: l) = .ok d m → Fine d ∧ cntT d + big ((z :: l).drop m) ≤ big (z :: l)) (h : (blkB (z :: l)).more 1 = .ok d k) : KidOk x (z :: l) d k := by
 obtain ⟨m, hm1, hm2⟩ := more_ok h
 have h1 := ih d m hm1
 have h2 := blk_took hm1
 subst hm2
 refine ⟨by omega, by simp; omega, h1.1, ?_⟩
 rw [Nat.add_sub_cancel_left]
 have : big (x :: z :: l) = 1 + x.text.length + big (z :: l) := rfl
 omega
theorem kid_nul {x : Ln} {l : List Ln} (h : 1 ≤ x.text.length) : KidOk x l nul 1 := by
 refine ⟨Nat.le_refl _, by omega, (got_nul 0).1, ?_⟩
 have : big (x :: l) = 1 + x.text.length + big l := rfl
 have e : cntT nul = 1 := rfl
 rw [e]
 show 1 + 1 + big l ≤ _
 omega
theorem blk_count : ∀ (N : Nat),
  (∀ x l, 2 * big (x :: l) + 1 ≤ N → ∀ d k, blkB (x :: l) = .ok d k → Fine d ∧ cntT d + big ((x :: l).drop k) ≤ big (x :: l)) ∧
  (∀ n ad l, 2 * big l ≤ N → ∀ d k, seqB n ad l = .ok d k → ∃ ds, SeqOk ad l d k ds ∧ (∀ x t, l = x :: t → x.ind = n → hyp x.text = true → 1 ≤ ds.length)) ∧
  (∀ n ak ad l, 2 * big l ≤ N → ∀ d k, mapB n ak ad l = .ok d k → ∃ ks ds, MapOk ak ad l d k ks ds ∧ (∀ x t p, l = x :: t → x.ind = n → entP x.text = some (some p) → p.1 ∉ ak → 1 ≤ ds.length)) := by
 intro N
 have seq0 : ∀ (ad : List Nd) (l : List Ln), SeqOk ad l (.mk 2 [] [] ad) 0 [] := fun ad l => ⟨by rw [List.append_nil], fun e he => (List.not_mem_nil he).elim, by rw [cntL]; show 0 + 0 + big l ≤ _; omega⟩
 have map0 : ∀ (ak : List L8) (ad : List Nd) (l : List Ln), MapOk ak ad l (.mk 3 [] ak ad) 0 [] [] := fun ak ad l => ⟨by rw [List.append_nil, List.append_nil], rfl, fun h => by rw [List.append_nil]; exact h, fun e he => (List.not_mem_nil he).elim, by rw [cntL]; show 0 + 0 + big l ≤ _; omega⟩
 induction N with
 | zero =>
  refine ⟨fun x l h => absurd h (by omega), fun n ad l h d k hk => ?_, fun n ak ad l h d k hk => ?_⟩
  ·cases l with
   | nil =>
    rw [seq_nil] at hk
    injection hk with h1 h2
    subst h1; subst h2
    exact ⟨[], seq0 ad [], fun x t e => by cases e⟩
   | cons x l => simp only [big] at h; omega
  ·cases l with
   | nil =>
    rw [map_nil] at hk
    injection hk with h1 h2
    subst h1; subst h2
    exact ⟨[], [], map0 ak ad [], fun x t p e => by cases e⟩
   | cons x l => simp only [big] at h; omega
 | succ N ih =>
  obtain ⟨ih1, ih2, ih3⟩ := ih
  refine ⟨fun x l h d k hk => ?_, fun n ad l h d k hk => ?_, fun n ak ad l h d k hk => ?_⟩
  ·cases hh : hyp x.text with
   | true =>
    rw [blk_seq hh] at hk
    obtain ⟨ds, ⟨rfl, h2, h3⟩, h4⟩ := ih2 x.ind [] (x :: l) (by omega) d k hk
    have h4 := h4 x l rfl rfl hh
    rw [List.nil_append]
    exact ⟨.mk (by decide) (by decide) (by simp [formB]) (fun h => by cases h) h2, by rw [cntT]; omega⟩
   | false =>
    cases he : entP x.text with
    | none => rw [blk_bad hh he] at hk; cases hk
    | some o =>
     cases o with
     | none =>
      rw [blk_val hh he] at hk
      have h1 := val_one hk
      subst h1
      have h2 := val_fine hk
      refine ⟨h2.1, ?_⟩
      show cntT d + big l ≤ 1 + x.text.length + big l
      omega
     | some p =>
      rw [blk_map hh he] at hk
      obtain ⟨ks, ds, ⟨rfl, h0, ho, h2, h3⟩, h4⟩ := ih3 x.ind [] [] (x :: l) (by omega) d k hk
      have h4 := h4 x l p rfl rfl he List.not_mem_nil
      have ho := ho once_nil
      rw [List.nil_append] at ho ⊢
      rw [List.nil_append]
      exact ⟨.mk (by decide) (by decide) (by simp [formB]) (fun _ => ⟨h0, sort_once ho⟩) h2, by rw [cntT]; omega⟩
  ·cases l with
   | nil =>
    rw [seq_nil] at hk
    injection hk with h1 h2
    subst h1; subst h2
    exact ⟨[], seq0 ad [], fun x t e => by cases e⟩
   | cons x l =>
    have hbig : big (x :: l) = 1 + x.text.length + big l := rfl
    rcases Nat.lt_trichotomy x.ind n with hlt | heq | hgt
    ·rw [seq_low hlt] at hk
     injection hk with h1 h2
     subst h1; subst h2
     exact ⟨[], seq0 ad _, fun y t e he => by injection e with e1 e2; subst e1; omega⟩
    ·cases hh : hyp x.text with
     | false =>
      rw [seq_other heq hh] at hk
      injection hk with h1 h2
      subst h1; subst h2
      exact ⟨[], seq0 ad _, fun y t e _ he => by injection e with e1 e2; subst e1; rw [hh] at he; cases he⟩
     | true =>
      rw [seq_kid heq hh] at hk
      have hkid : ∀ d2 k2, kidS n x l = .ok d2 k2 → KidOk x l d2 k2 := fun d2 k2 h2 => by
       unfold kidS at h2
       split at h2
       ·rename_i h1
        have hc := cut1_lt h1
        have h3 := ih1 (cut1 x) l (by simp only [big]; omega) d2 k2 h2
        have h4 := blk_took h2
        obtain ⟨j, rfl⟩ : ∃ j, k2 = j + 1 := ⟨k2 - 1, by omega⟩
        have h5 : cntT d2 + big (l.drop j) ≤ 1 + (cut1 x).text.length + big l := h3.2
        refine ⟨h4.1, h4.2, h3.1, ?_⟩
        rw [Nat.add_sub_cancel]
        omega
       ·split at h2
        ·cases l with
         | nil => rename_i hdp; cases hdp
         | cons z l => exact kid_more (fun d m => ih1 z l (by simp only [big] at h ⊢; omega) d m) h2
        ·injection h2 with h3 h4
         subst h3; subst h4
         exact kid_nul (hyp_len hh)
      cases hkr : kidS n x l with
      | bad no e => rw [hkr] at hk; cases hk
      | ok d2 k2 =>
       rw [hkr] at hk
       obtain ⟨m, hm1, hm2⟩ := more_ok hk
       obtain ⟨g1, g2, g3, g4⟩ := hkid d2 k2 hkr
       have hb := big_drop (k2 - 1) l
       obtain ⟨ds, ⟨e1, e2, e3⟩, -⟩ := ih2 n (ad ++ [d2]) (l.drop (k2 - 1)) (by omega) d m hm1
       refine ⟨d2 :: ds, ⟨by rw [e1, List.append_assoc]; rfl, fun e he => ?_, ?_⟩, fun _ _ _ _ _ => by simp⟩
       ·rcases List.mem_cons.1 he with rfl | he
        ·exact g3
        ·exact e2 e he
       ·subst hm2
        rw [cntL, List.length_cons, show k2 - 1 + 1 + m = (k2 - 1 + m) + 1 by omega, List.drop_succ_cons]
        rw [List.drop_drop] at e3
        omega
    ·rw [seq_high hgt] at hk; cases hk
  ·cases l with
   | nil =>
    rw [map_nil] at hk
    injection hk with h1 h2
    subst h1; subst h2
    exact ⟨[], [], map0 ak ad [], fun x t p e => by cases e⟩
   | cons x l =>
    have hbig : big (x :: l) = 1 + x.text.length + big l := rfl
    rcases Nat.lt_trichotomy x.ind n with hlt | heq | hgt
    ·rw [map_low hlt] at hk
     injection hk with h1 h2
     subst h1; subst h2
     exact ⟨[], [], map0 ak ad _, fun y t p e he => by injection e with e1 e2; subst e1; omega⟩
    ·cases he : entP x.text with
     | none => rw [map_bad heq he] at hk; cases hk
     | some o =>
      cases o with
      | none =>
       rw [map_other heq he] at hk
       injection hk with h1 h2
       subst h1; subst h2
       exact ⟨[], [], map0 ak ad _, fun y t p e _ h9 => by injection e with e1 e2; subst e1; rw [he] at h9; cases h9⟩
      | some p =>
       obtain ⟨y, r⟩ := p
       by_cases hy : y ∈ ak
       ·rw [map_twice heq he hy] at hk; cases hk
       ·rw [map_kid heq he hy] at hk
        have hel := ent_len he
        have hkid : ∀ d2 k2, kidM n x l r = .ok d2 k2 → KidOk x l d2 k2 := fun d2 k2 h2 => by
         unfold kidM at h2
         split at h2
         ·have h3 := val_one h2
          have h4 := val_fine h2
          subst h3
          refine ⟨Nat.le_refl _, by omega, h4.1, ?_⟩
          show cntT d2 + 1 + big l ≤ _
          omega
         ·split at h2
          ·cases l with
           | nil => rename_i hdp; cases hdp
           | cons z l => exact kid_more (fun d m => ih1 z l (by simp only [big] at h ⊢; omega) d m) h2
          ·injection h2 with h3 h4
           subst h3; subst h4
           exact kid_nul (by omega)
        cases hkr : kidM n x l r with
        | bad no e => rw [hkr] at hk; cases hk
        | ok d2 k2 =>
         rw [hkr] at hk
         obtain ⟨m, hm1, hm2⟩ := more_ok hk
         obtain ⟨g1, g2, g3, g4⟩ := hkid d2 k2 hkr
         have hb := big_drop (k2 - 1) l
         obtain ⟨ks, ds, ⟨e1, e0, eo, e2, e3⟩, -⟩ := ih3 n (ak ++ [y]) (ad ++ [d2]) (l.drop (k2 - 1)) (by omega) d m hm1
         refine ⟨y :: ks, d2 :: ds, ⟨by rw [e1, List.append_assoc, List.append_assoc]; rfl, by rw [List.length_cons, List.length_cons, e0], fun h => ?_, fun e he => ?_, ?_⟩, fun _ _ _ _ _ _ _ => by simp⟩
         ·have := eo (once_snoc h hy)
          rw [List.append_assoc] at this
          exact this
         ·rcases List.mem_cons.1 he with rfl | he
          ·exact g3
          ·exact e2 e he
         ·subst hm2
          rw [cntL, List.length_cons, show k2 - 1 + 1 + m = (k2 - 1 + m) + 1 by omega, List.drop_succ_cons]
          rw [List.drop_drop] at e3
          omega
    ·rw [map_high hgt] at hk; cases hk
theorem blk_fine {x : Ln} {l : List Ln} {d : Nd} {k : Nat} (h : blkB (x :: l) = .ok d k) : Fine d ∧ cntT d ≤ big (x :: l) := by
 have := (blk_count _).1 x l (Nat.le_refl _) d k h
 exact ⟨this.1, by omega⟩
end B10
end Go.Proofs.YtmdgpejedbkkdaaGreatDoor
namespace Go.Proofs.YtmdgpejedbkkdaaGreatDoor
namespace E11
open Nw N8 Q6 F9 B10
mutual
def allT (M : Nat) : Nd → Prop
 | .mk _ t ks ds => t.length ≤ M ∧ (∀ k ∈ ks, k.length ≤ M) ∧ allL M ds
def allL (M : Nat) : List Nd → Prop
 | [] => True
 | d :: ds => allT M d ∧ allL M ds
end
theorem allL_iff {M : Nat} : ∀ {ds : List Nd}, allL M ds ↔ ∀ d ∈ ds, allT M d
 | [] => by rw [allL]; exact ⟨fun _ d h => (by cases h), fun _ => trivial⟩
 | d :: ds => by
  rw [allL, allL_iff (ds := ds)]
  exact ⟨fun h e he => by rcases List.mem_cons.1 he with rfl | he; exact h.1; exact h.2 e he, fun h => ⟨h d (List.mem_cons_self ..), fun e he => h e (List.mem_cons_of_mem _ he)⟩⟩
theorem all_nul (M : Nat) : allT M nul := ⟨Nat.zero_le _, fun k h => (by cases h), trivial⟩
theorem all_txt {M : Nat} {t : L8} (h : t.length ≤ M) : allT M (txt t) := ⟨h, fun k h => (by cases h), trivial⟩
theorem esc_pos (c : UInt8) : 1 ≤ (esc c).length := by have := (den_esc c []).2.1; omega
theorem escL_ge : ∀ l : L8, l.length ≤ (escL l).length
 | [] => Nat.zero_le _
 | c :: l => by
  have h1 := esc_pos c
  have h2 := escL_ge l
  rw [escL_cons, List.length_append, List.length_cons]; omega
theorem wtx_ge (t : L8) : t.length ≤ (wtx t).length := by
 unfold wtx
 split
 ·exact Nat.le_refl _
 ·have := escL_ge t
  rw [dbl_len1]; omega
theorem wrS_in : ∀ (ds : List Nd), (∀ d ∈ ds, (wrT d).length ≤ (wrS ds).length) ∧ (∀ d ∈ ds, (wrT d).length ≤ (wrSt ds).length)
 | [] => ⟨fun d h => (by cases h), fun d h => (by cases h)⟩
 | e :: ds => by
  have h := (wrS_in ds).2
  rw [wrS, wrSt]
  refine ⟨fun d hd => ?_, fun d hd => ?_⟩
  ·rw [List.length_append]
   rcases List.mem_cons.1 hd with rfl | hd
   ·omega
   ·have := h d hd; omega
  ·rw [List.length_append, List.length_cons, List.length_cons]
   rcases List.mem_cons.1 hd with rfl | hd
   ·omega
   ·have := h d hd; omega
theorem wrM_in : ∀ (ks : List L8) (ds : List Nd), ks.length = ds.length → ((∀ k ∈ ks, k.length ≤ (wrM ks ds).length) ∧ ∀ d ∈ ds, (wrT d).length ≤ (wrM ks ds).length) ∧ ((∀ k ∈ ks, k.length ≤ (wrMt ks ds).length) ∧ ∀ d ∈ ds, (wrT d).length ≤ (wrMt ks ds).length)
 | [], [], _ => ⟨⟨fun k h => (by cases h), fun d h => (by cases h)⟩, ⟨fun k h => (by cases h), fun d h => (by cases h)⟩⟩
 | [], _ :: _, h => by cases h
 | _ :: _, [], h => by cases h
 | x :: ks, e :: ds, h => by
  obtain ⟨_, h1, h2⟩ := wrM_in ks ds (by simpa using h)
  have hx := wtx_ge x
  rw [wrM, wrMt]
  simp only [List.length_append, List.length_cons]
  refine ⟨⟨fun k hk => ?_, fun d hd => ?_⟩, ⟨fun k hk => ?_, fun d hd => ?_⟩⟩
  ·rcases List.mem_cons.1 hk with rfl | hk
   ·omega
   ·have := h1 k hk; omega
  ·rcases List.mem_cons.1 hd with rfl | hd
   ·omega
   ·have := h2 d hd; omega
  ·rcases List.mem_cons.1 hk with rfl | hk
   ·omega
   ·have := h1 k hk; omega
  ·rcases List.mem_cons.1 hd with rfl | hd
   ·omega
   ·have := h2 d hd; omega
theorem wrT_all : ∀ (N : Nat) (d : Nd) (M : Nat), cntT d ≤ N → N8.Fine d → (wrT d).length ≤ M → allT M d
 | 0, d, M, h, _, _ => by have := cnt_pos d; omega
 | N + 1, .mk k t ks ds, M, h, hf, hM => by
  have hff := hf
  obtain ⟨⟨h0, h3⟩, ht, hk, hd, hfd⟩ := fine_in hf
  rw [cntT] at h
  rw [wrT] at hM
  have hin : ∀ e ∈ ds, cntT e ≤ cntL ds := by
   clear h hf hff hM hfd hd
   induction ds with
   | nil => intro e he; cases he
   | cons a ds ih =>
    intro e he
    rw [cntL]
    rcases List.mem_cons.1 he with rfl | he
    ·omega
    ·have := ih e he; omega
  by_cases e0 : k = 0
  ·rw [ht (by omega), hk (by omega), hd (by omega)]
   exact ⟨Nat.zero_le _, fun k h => (by cases h), trivial⟩
  rw [if_neg e0] at hM
  by_cases e1 : k = 1
  ·rw [if_pos e1] at hM
   rw [hk (by omega), hd (by omega)]
   have := wtx_ge t
   exact ⟨by omega, fun k h => (by cases h), trivial⟩
  rw [if_neg e1] at hM
  rw [ht e1]
  by_cases e3 : k = 3
  ·rw [if_pos e3] at hM
   have hl : ks.length = ds.length := by
    cases hff with
    | mk a b c dd ee => exact (dd e3).1
   obtain ⟨⟨a1, a2⟩, _⟩ := wrM_in ks ds hl
   rw [List.length_append, List.length_cons] at hM
   refine ⟨Nat.zero_le _, fun x hx => ?_, allL_iff.2 fun e he => wrT_all N e M ?_ (hfd e he) ?_⟩
   ·have := a1 x hx; omega
   ·have := hin e he; omega
   ·have := a2 e he; omega
  ·rw [if_neg e3] at hM
   rw [hk e3]
   rw [List.length_append, List.length_cons] at hM
   refine ⟨Nat.zero_le _, fun x hx => (by cases hx), allL_iff.2 fun e he => wrT_all N e M ?_ (hfd e he) ?_⟩
   ·have := hin e he; omega
   ·have := (wrS_in ds).1 e he; omega
theorem scl_all {row : Bool} {l : L8} {d : Nd} {M : Nat} (hl : l.length ≤ M) (h : sclS row l = some d) : allT M d := by
 unfold sclS at h
 split at h
 ·injection h with h; subst h; exact all_nul M
 ·split at h
  ·rename_i hq
   cases hs : scnP l with
   | none => rw [hs] at h; cases h
   | some p =>
    rw [hs] at h
    injection h with h; subst h
    obtain ⟨t, n⟩ := p
    have hne : l ≠ [] := by
     rintro rfl
     rw [Bool.and_eq_true] at hq
     exact absurd hq.1 (by decide)
    have := scn_facts hs hne
    exact all_txt (by show t.length ≤ M; omega)
  ·by_cases hb : (if row then rowB l else plainB l) = true
   ·rw [if_pos hb] at h; injection h with h; subst h; exact all_txt hl
   ·rw [if_neg hb] at h; cases h
theorem val_all {l : L8} {no : Nat} {d : Nd} {k B : Nat} (hl : l.length ≤ B) (h : valL l no = .ok d k) : allT (4 + 6 * B) d := by
 unfold valL at h
 split at h
 ·split at h
  ·rename_i hE
   injection h with h1 h2
   subst h1
   cases hP : parP l with
   | none => rw [hP] at hE; exact absurd hE (by decide)
   | some e =>
    rw [hP] at hE
    cases hok : okT 2000 e with
    | true =>
     rw [← (par_yes hok).2]
     have := par_got hP
     exact wrT_all _ e _ (Nat.le_refl _) this.1 (by omega)
    | false =>
     rw [← (par_no hok).1] at hE
     exact absurd hE (by decide)
  ·cases h
 ·split at h
  ·cases h
  ·rename_i hs
   injection h with h1 h2
   subst h1
   exact scl_all (by omega) hs
theorem ent_all {l y r : L8} (h : entP l = some (some (y, r))) : y.length ≤ l.length ∧ r.length ≤ l.length := by
 have h2 := ent_len h
 refine ⟨?_, by omega⟩
 unfold entP at h
 split at h
 ·injection h with h; cases h
 ·split at h
  ·rename_i hq
   split at h
   ·injection h with h; cases h
   ·rename_i t m hs
    split at h
    ·injection h with h; injection h with h; injection h with h1 h2
     subst h1
     have hne : l ≠ [] := by rintro rfl; exact absurd hq (by decide)
     have := scn_facts hs hne
     omega
    ·injection h with h; cases h
  ·split at h
   ·injection h with h; cases h
   ·split at h
    ·injection h with h; injection h with h; injection h with h1 h2
     subst h1
     rw [List.length_take]; omega
    ·cases h
def Lns (B : Nat) (l : List Ln) : Prop := ∀ y ∈ l, y.text.length ≤ B
theorem Lns.drop {B : Nat} {l : List Ln} (h : Lns B l) (k : Nat) : Lns B (l.drop k) := fun y hy => h y (List.mem_of_mem_drop hy)
theorem Lns.tail {B : Nat} {x : Ln} {l : List Ln} (h : Lns B (x :: l)) : Lns B l := fun y hy => h y (List.mem_cons_of_mem _ hy)
theorem Lns.cut {B : Nat} {x : Ln} {l : List Ln} (h : Lns B (x :: l)) : Lns B (cut1 x :: l) := by
 intro y hy
 rcases List.mem_cons.1 hy with rfl | hy
 ·have h1 := h x (List.mem_cons_self ..)
  show (x.text.drop _).length ≤ B
  rw [List.length_drop]; omega
 ·exact h y (List.mem_cons_of_mem _ hy)
theorem all_snoc {M : Nat} {ad : List Nd} {d : Nd} (h : ∀ e ∈ ad, allT M e) (hd : allT M d) : ∀ e ∈ ad ++ [d], allT M e := fun e he => by
 rcases List.mem_append.1 he with he | he
 ·exact h e he
 ·rw [List.mem_singleton.1 he]; exact hd
theorem blk_all (B : Nat) : ∀ (N : Nat),
  (∀ x l, 2 * big (x :: l) + 1 ≤ N → Lns B (x :: l) → ∀ d k, blkB (x :: l) = .ok d k → allT (4 + 6 * B) d) ∧
  (∀ n ad l, 2 * big l ≤ N → Lns B l → (∀ e ∈ ad, allT (4 + 6 * B) e) → ∀ d k, seqB n ad l = .ok d k → allT (4 + 6 * B) d) ∧
  (∀ n ak ad l, 2 * big l ≤ N → Lns B l → (∀ y ∈ ak, y.length ≤ 4 + 6 * B) → (∀ e ∈ ad, allT (4 + 6 * B) e) → ∀ d k, mapB n ak ad l = .ok d k → allT (4 + 6 * B) d) := by
 intro N
 have seq0 : ∀ {ad : List Nd}, (∀ e ∈ ad, allT (4 + 6 * B) e) → allT (4 + 6 * B) (.mk 2 [] [] ad) := fun h => ⟨Nat.zero_le _, fun k h => (by cases h), allL_iff.2 h⟩
 have map0 : ∀ {ak : List L8} {ad : List Nd}, (∀ y ∈ ak, y.length ≤ 4 + 6 * B) → (∀ e ∈ ad, allT (4 + 6 * B) e) → allT (4 + 6 * B) (.mk 3 [] ak ad) := fun h1 h => ⟨Nat.zero_le _, h1, allL_iff.2 h⟩
 induction N with
 | zero =>
  refine ⟨fun x l h => absurd h (by omega), fun n ad l h hl ha d k hk => ?_, fun n ak ad l h hl hy ha d k hk => ?_⟩
  ·cases l with
   | nil => rw [seq_nil] at hk; injection hk with h1 h2; subst h1; exact seq0 ha
   | cons x l => simp only [big] at h; omega
  ·cases l with
   | nil => rw [map_nil] at hk; injection hk with h1 h2; subst h1; exact map0 hy ha
   | cons x l => simp only [big] at h; omega
 | succ N ih =>
  obtain ⟨ih1, ih2, ih3⟩ := ih
  refine ⟨fun x l h hl d k hk => ?_, fun n ad l h hl ha d k hk => ?_, fun n ak ad l h hl hya ha d k hk => ?_⟩
  ·cases hh : hyp x.text with
   | true =>
    rw [blk_seq hh] at hk
    exact ih2 x.ind [] (x :: l) (by omega) hl (fun e he => by cases he) d k hk
   | false =>
    cases he : entP x.text with
    | none => rw [blk_bad hh he] at hk; cases hk
    | some o =>
     cases o with
     | none => rw [blk_val hh he] at hk; exact val_all (hl x (List.mem_cons_self ..)) hk
     | some p =>
      rw [blk_map hh he] at hk
      exact ih3 x.ind [] [] (x :: l) (by omega) hl (fun e he => by cases he) (fun e he => by cases he) d k hk
  ·cases l with
   | nil => rw [seq_nil] at hk; injection hk with h1 h2; subst h1; exact seq0 ha
   | cons x l =>
    have hbig : big (x :: l) = 1 + x.text.length + big l := rfl
    rcases Nat.lt_trichotomy x.ind n with hlt | heq | hgt
    ·rw [seq_low hlt] at hk; injection hk with h1 h2; subst h1; exact seq0 ha
    ·cases hh : hyp x.text with
     | false => rw [seq_other heq hh] at hk; injection hk with h1 h2; subst h1; exact seq0 ha
     | true =>
      rw [seq_kid heq hh] at hk
      have hkid : ∀ d2 k2, kidS n x l = .ok d2 k2 → allT (4 + 6 * B) d2 := fun d2 k2 h2 => by
       unfold kidS at h2
       split at h2
       ·rename_i h1
        have hc := cut1_lt h1
        exact ih1 (cut1 x) l (by simp only [big]; omega) hl.cut d2 k2 h2
       ·split at h2
        ·cases l with
         | nil => rename_i hdp; cases hdp
         | cons z l =>
          obtain ⟨m, hm1, _⟩ := more_ok h2
          exact ih1 z l (by simp only [big] at h ⊢; omega) hl.tail d2 m hm1
        ·injection h2 with h3 h4; subst h3; exact all_nul _
      cases hkr : kidS n x l with
      | bad no e => rw [hkr] at hk; cases hk
      | ok d2 k2 =>
       rw [hkr] at hk
       obtain ⟨m, hm1, _⟩ := more_ok hk
       have hb := big_drop (k2 - 1) l
       exact ih2 n (ad ++ [d2]) (l.drop (k2 - 1)) (by omega) (hl.tail.drop _) (all_snoc ha (hkid d2 k2 hkr)) d m hm1
    ·rw [seq_high hgt] at hk; cases hk
  ·cases l with
   | nil => rw [map_nil] at hk; injection hk with h1 h2; subst h1; exact map0 hya ha
   | cons x l =>
    have hbig : big (x :: l) = 1 + x.text.length + big l := rfl
    have hx := hl x (List.mem_cons_self ..)
    rcases Nat.lt_trichotomy x.ind n with hlt | heq | hgt
    ·rw [map_low hlt] at hk; injection hk with h1 h2; subst h1; exact map0 hya ha
    ·cases he : entP x.text with
     | none => rw [map_bad heq he] at hk; cases hk
     | some o =>
      cases o with
      | none => rw [map_other heq he] at hk; injection hk with h1 h2; subst h1; exact map0 hya ha
      | some p =>
       obtain ⟨y, r⟩ := p
       by_cases hy : y ∈ ak
       ·rw [map_twice heq he hy] at hk; cases hk
       ·rw [map_kid heq he hy] at hk
        have hel := ent_all he
        have hkid : ∀ d2 k2, kidM n x l r = .ok d2 k2 → allT (4 + 6 * B) d2 := fun d2 k2 h2 => by
         unfold kidM at h2
         split at h2
         ·exact val_all (by omega) h2
         ·split at h2
          ·cases l with
           | nil => rename_i hdp; cases hdp
           | cons z l =>
            obtain ⟨m, hm1, _⟩ := more_ok h2
            exact ih1 z l (by simp only [big] at h ⊢; omega) hl.tail d2 m hm1
          ·injection h2 with h3 h4; subst h3; exact all_nul _
        cases hkr : kidM n x l r with
        | bad no e => rw [hkr] at hk; cases hk
        | ok d2 k2 =>
         rw [hkr] at hk
         obtain ⟨m, hm1, _⟩ := more_ok hk
         have hb := big_drop (k2 - 1) l
         refine ih3 n (ak ++ [y]) (ad ++ [d2]) (l.drop (k2 - 1)) (by omega) (hl.tail.drop _) (fun z hz => ?_) (all_snoc ha (hkid d2 k2 hkr)) d m hm1
         rcases List.mem_append.1 hz with hz | hz
         ·exact hya z hz
         ·rw [List.mem_singleton.1 hz]; omega
    ·rw [map_high hgt] at hk; cases hk
theorem sumK_all {M : Nat} : ∀ ks : List L8, (∀ k ∈ ks, k.length ≤ M) → sumK ks ≤ M * ks.length
 | [], _ => Nat.zero_le _
 | k :: ks, h => by
  have h1 := h k (List.mem_cons_self ..)
  have h2 := sumK_all ks fun x hx => h x (List.mem_cons_of_mem _ hx)
  rw [sumK, List.length_cons, Nat.mul_add, Nat.mul_one]; omega
mutual
theorem all_sum {M : Nat} : ∀ d : Nd, N8.Fine d → allT M d → sumT d + M ≤ M * (2 * cntT d)
 | .mk k t ks ds, hf, h => by
  have hff := hf
  obtain ⟨_, _, hk, _, hfd⟩ := fine_in hf
  rw [allT] at h
  have h1 := h.1
  have h2 := sumK_all ks h.2.1
  have h3 := all_sumL ds hfd h.2.2
  have h4 : ks.length ≤ ds.length := by
   by_cases e : k = 3
   ·cases hff with
    | mk a b c dd ee => rw [(dd e).1]; exact Nat.le_refl _
   ·rw [hk e]; exact Nat.zero_le _
  have h5 : M * ks.length ≤ M * ds.length := Nat.mul_le_mul (Nat.le_refl _) h4
  rw [sumT, cntT, show 2 * (1 + cntL ds) = 2 * cntL ds + 2 by omega, Nat.mul_add]; omega
theorem all_sumL {M : Nat} : ∀ ds : List Nd, (∀ d ∈ ds, N8.Fine d) → allL M ds → sumL ds + M * ds.length ≤ M * (2 * cntL ds)
 | [], _, _ => by rw [sumL]; exact Nat.le_of_eq (by simp [cntL])
 | d :: ds, hf, h => by
  rw [allL] at h
  have h1 := all_sum d (hf d (List.mem_cons_self ..)) h.1
  have h2 := all_sumL ds (fun e he => hf e (List.mem_cons_of_mem _ he)) h.2
  rw [sumL, cntL, List.length_cons, show 2 * (cntT d + cntL ds) = 2 * cntT d + 2 * cntL ds by omega, Nat.mul_add, Nat.mul_add, Nat.mul_one]; omega
end
theorem wrB_all {d : Nd} {M : Nat} (hd : okT 2000 d = true) (ha : allT M d) : (wrB d).length ≤ 88008 + 4 * (M * 4000) := by
 have h1 := wrB_len (m := 2000) hd
 obtain ⟨hf, hc, _⟩ := ok_iff.1 (show okT ((2000 : Nat) : Int) d = true from hd)
 have h2 := all_sum d hf ha
 have h3 : M * (2 * cntT d) ≤ M * 4000 := Nat.mul_le_mul (Nat.le_refl _) (by omega)
 omega
theorem par_all (l : L8) : allT 49156 (parB l).1 ∧ okT 2000 (parB l).1 = true := by
 obtain ⟨ls, no, E, hf⟩ : ∃ ls no E, fileL l = (ls, no, E) := ⟨_, _, _, rfl⟩
 have hnul : allT 49156 nul ∧ okT 2000 nul = true := ⟨all_nul _, ok_iff.2 ⟨(got_nul 0).1, by decide, by decide⟩⟩
 by_cases hE : E = 0
 ·subst hE
  have hsm := (file_small hf).2
  cases ls with
  | nil => rw [par_nil hf]; exact hnul
  | cons x ls =>
   rw [par_cons hf]
   cases hb : blkB (x :: ls) with
   | bad no e => exact hnul
   | ok d k =>
    by_cases hk : k < (x :: ls).length
    ·rw [parK_low hk]; exact hnul
    ·rw [parK_end (by omega)]
     by_cases ho : okT 2000 d = true
     ·rw [if_pos ho]
      exact ⟨(blk_all 8192 _).1 x ls (Nat.le_refl _) (fun y hy => by have := hsm y hy; omega) d k hb, ho⟩
     ·rw [if_neg ho]; exact hnul
 ·rw [par_err hf hE]; exact hnul
theorem wrB_par (l : L8) : (wrB (parB l).1).length ≤ 800000000 := by
 have h := par_all l
 have := wrB_all h.2 h.1
 omega
end E11
end Go.Proofs.YtmdgpejedbkkdaaGreatDoor
