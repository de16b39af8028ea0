/- BloCount, RefBlo2, RefSplit, FloStep, RefCut, RefBlo5, RefBlo9, BloLaw, PrgCut -/
import Derived.BigQuiet
import Derived.BigRegion
import Derived.ChangeAlike
import Derived.Deep.CutRange
import Derived.RegionTactic
import Derived.Test.YtmdgpejedbkkdaaGreatDoorWT10
import Derived.Test.YtmdgpejedbkkdaaGreatDoorWT13
import Derived.Test.YtmdgpejedbkkdaaGreatDoorWT16
import Derived.Test.YtmdgpejedbkkdaaGreatDoorWT17
import Derived.Test.YtmdgpejedbkkdaaGreatDoorWT18
import Derived.Test.YtmdgpejedbkkdaaGreatDoorWT5
import Derived.Test.YtmdgpejedbkkdaaGreatDoorWT6
import Derived.Test.YtmdgpejedbkkdaaGreatDoorWT7
set_option linter.unusedVariables false
set_option linter.unusedSimpArgs false
set_option maxRecDepth 100000
set_option maxHeartbeats 16000000
open Go.Lib (hid)
namespace Go.Proofs.YtmdgpejedbkkdaaGreatDoor
namespace B10
open Nw N8 Q6 F9
theorem fine_txt9 (t : L8) : Fine (txt t) := (got_txt (m := (wtx t).length) (by omega)).1
theorem scl_fine {row : Bool} {l : L8} {d : Nd} (h : sclS row l = some d) : Fine d ∧ cntT d = 1 := by
 unfold sclS at h
 split at h
 ·injection h with h; subst h; exact ⟨(got_nul 0).1, rfl⟩
 ·split at h
  ·cases hs : scnP l with
   | none => rw [hs] at h; cases h
   | some p =>
    rw [hs] at h
    injection h with h; subst h
    exact ⟨fine_txt9 _, by unfold txt; rw [cntT, cntL]⟩
  ·by_cases hb : (if row then rowB l else plainB l) = true
   ·rw [if_pos hb] at h; injection h with h; subst h; exact ⟨fine_txt9 _, by unfold txt; rw [cntT, cntL]⟩
   ·rw [if_neg hb] at h; cases h
theorem val_fine {l : L8} {no : Nat} {d : Nd} {k : Nat} (h : valL l no = .ok d k) : Fine d ∧ cntT d ≤ l.length + 1 := by
 unfold valL at h
 split at h
 ·split at h
  ·rename_i hE
   injection h with h1 h2
   subst h1
   cases hP : parP l with
   | none => rw [hP] at hE; exact absurd hE (by decide)
   | some e =>
    rw [hP] at hE
    cases hok : okT 2000 e with
    | true =>
     rw [← (par_yes hok).2]
     have := par_got hP
     exact ⟨this.1, this.2.1⟩
    | false =>
     rw [← (par_no hok).1] at hE
     exact absurd hE (by decide)
  ·cases h
 ·split at h
  ·cases h
  ·rename_i hs
   injection h with h1 h2
   subst h1
   have := scl_fine hs
   exact ⟨this.1, by omega⟩
theorem mrk_lt {l : L8} {k : Nat} (h : mrk l k = true) : k < l.length := by
 unfold mrk at h
 rw [Bool.and_eq_true] at h
 rcases Nat.lt_or_ge k l.length with g | g
 ·exact g
 ·have h1 := of_decide_eq_true h.1
  rw [List.getD_eq_getElem?_getD, List.getElem?_eq_none g] at h1
  exact absurd h1 (by decide)
theorem bhd_len {l : L8} {k : Nat} (h : k < l.length) : (bhd l k).length + 1 ≤ l.length := by
 unfold bhd
 rw [List.length_drop]
 omega
theorem fst_mrk : ∀ (n : Nat) (l : L8) (k j : Nat), l.length - k ≤ n → fstM l k = some j → mrk l j = true
 | 0, l, k, j, hn, h => by
  rw [fstM, dif_neg (by omega)] at h; cases h
 | n + 1, l, k, j, hn, h => by
  rw [fstM] at h
  split at h
  ·split at h
   ·injection h with h; subst h; assumption
   ·exact fst_mrk n l (k + 1) j (by omega) h
  ·cases h
theorem ent_len {l y r : L8} (h : entP l = some (some (y, r))) : r.length + 1 ≤ l.length := by
 unfold entP at h
 split at h
 ·injection h with h; cases h
 ·split at h
  ·split at h
   ·injection h with h; cases h
   ·split at h
    ·rename_i hm
     injection h with h; injection h with h; injection h with h1 h2
     subst h2
     exact bhd_len (mrk_lt hm)
    ·injection h with h; cases h
  ·split at h
   ·injection h with h; cases h
   ·rename_i k hk
    split at h
    ·injection h with h; injection h with h; injection h with h1 h2
     subst h2
     exact bhd_len (mrk_lt (fst_mrk _ l 0 k (Nat.le_refl _) hk))
    ·cases h
theorem hyp_len {l : L8} (h : hyp l = true) : 1 ≤ l.length := by
 cases l with
 | nil => exact absurd h (by decide)
 | cons c l => simp
def KidOk (x : Ln) (l : List Ln) (d : Nd) (k : Nat) : Prop := 1 ≤ k ∧ k ≤ l.length + 1 ∧ Fine d ∧ cntT d + 1 + big (l.drop (k - 1)) ≤ big (x :: l)
def SeqOk (ad : List Nd) (l : List Ln) (d : Nd) (k : Nat) (ds : List Nd) : Prop := d = .mk 2 [] [] (ad ++ ds) ∧ (∀ e ∈ ds, Fine e) ∧ cntL ds + ds.length + big (l.drop k) ≤ big l
def MapOk (ak : List L8) (ad : List Nd) (l : List Ln) (d : Nd) (k : Nat) (ks : List L8) (ds : List Nd) : Prop := d = .mk 3 [] (ak ++ ks) (ad ++ ds) ∧ ks.length = ds.length ∧ (Once ak → Once (ak ++ ks)) ∧ (∀ e ∈ ds, Fine e) ∧ cntL ds + ds.length + big (l.drop k) ≤ big l
theorem kid_more {z : Ln} {l : List Ln} {x : Ln} {d : Nd} {k : Nat} (ih : ∀ d m, blkB (z :: l) = .ok d m → Fine d ∧ cntT d + big ((z :: l).drop m) ≤ big (z :: l)) (h : (blkB (z :: l)).more 1 = .ok d k) : KidOk x (z :: l) d k := by
 obtain ⟨m, hm1, hm2⟩ := more_ok h
 have h1 := ih d m hm1
 have h2 := blk_took hm1
 subst hm2
 refine ⟨by omega, by simp; omega, h1.1, ?_⟩
 rw [Nat.add_sub_cancel_left]
 have : big (x :: z :: l) = 1 + x.text.length + big (z :: l) := rfl
 omega
theorem kid_nul {x : Ln} {l : List Ln} (h : 1 ≤ x.text.length) : KidOk x l nul 1 := by
 refine ⟨Nat.le_refl _, by omega, (got_nul 0).1, ?_⟩
 have : big (x :: l) = 1 + x.text.length + big l := rfl
 have e : cntT nul = 1 := rfl
 rw [e]
 show 1 + 1 + big l ≤ _
 omega
theorem blk_count : ∀ (N : Nat),
  (∀ x l, 2 * big (x :: l) + 1 ≤ N → ∀ d k, blkB (x :: l) = .ok d k → Fine d ∧ cntT d + big ((x :: l).drop k) ≤ big (x :: l)) ∧
  (∀ n ad l, 2 * big l ≤ N → ∀ d k, seqB n ad l = .ok d k → ∃ ds, SeqOk ad l d k ds ∧ (∀ x t, l = x :: t → x.ind = n → hyp x.text = true → 1 ≤ ds.length)) ∧
  (∀ n ak ad l, 2 * big l ≤ N → ∀ d k, mapB n ak ad l = .ok d k → ∃ ks ds, MapOk ak ad l d k ks ds ∧ (∀ x t p, l = x :: t → x.ind = n → entP x.text = some (some p) → p.1 ∉ ak → 1 ≤ ds.length)) := by
 intro N
 have seq0 : ∀ (ad : List Nd) (l : List Ln), SeqOk ad l (.mk 2 [] [] ad) 0 [] := fun ad l => ⟨by rw [List.append_nil], fun e he => (List.not_mem_nil he).elim, by rw [cntL]; show 0 + 0 + big l ≤ _; omega⟩
 have map0 : ∀ (ak : List L8) (ad : List Nd) (l : List Ln), MapOk ak ad l (.mk 3 [] ak ad) 0 [] [] := fun ak ad l => ⟨by rw [List.append_nil, List.append_nil], rfl, fun h => by rw [List.append_nil]; exact h, fun e he => (List.not_mem_nil he).elim, by rw [cntL]; show 0 + 0 + big l ≤ _; omega⟩
 induction N with
 | zero =>
  refine ⟨fun x l h => absurd h (by omega), fun n ad l h d k hk => ?_, fun n ak ad l h d k hk => ?_⟩
  ·cases l with
   | nil =>
    rw [seq_nil] at hk
    injection hk with h1 h2
    subst h1; subst h2
    exact ⟨[], seq0 ad [], fun x t e => by cases e⟩
   | cons x l => simp only [big] at h; omega
  ·cases l with
   | nil =>
    rw [map_nil] at hk
    injection hk with h1 h2
    subst h1; subst h2
    exact ⟨[], [], map0 ak ad [], fun x t p e => by cases e⟩
   | cons x l => simp only [big] at h; omega
 | succ N ih =>
  obtain ⟨ih1, ih2, ih3⟩ := ih
  refine ⟨fun x l h d k hk => ?_, fun n ad l h d k hk => ?_, fun n ak ad l h d k hk => ?_⟩
  ·cases hh : hyp x.text with
   | true =>
    rw [blk_seq hh] at hk
    obtain ⟨ds, ⟨rfl, h2, h3⟩, h4⟩ := ih2 x.ind [] (x :: l) (by omega) d k hk
    have h4 := h4 x l rfl rfl hh
    rw [List.nil_append]
    exact ⟨.mk (by decide) (by decide) (by simp [formB]) (fun h => by cases h) h2, by rw [cntT]; omega⟩
   | false =>
    cases he : entP x.text with
    | none => rw [blk_bad hh he] at hk; cases hk
    | some o =>
     cases o with
     | none =>
      rw [blk_val hh he] at hk
      have h1 := val_one hk
      subst h1
      have h2 := val_fine hk
      refine ⟨h2.1, ?_⟩
      show cntT d + big l ≤ 1 + x.text.length + big l
      omega
     | some p =>
      rw [blk_map hh he] at hk
      obtain ⟨ks, ds, ⟨rfl, h0, ho, h2, h3⟩, h4⟩ := ih3 x.ind [] [] (x :: l) (by omega) d k hk
      have h4 := h4 x l p rfl rfl he List.not_mem_nil
      have ho := ho once_nil
      rw [List.nil_append] at ho ⊢
      rw [List.nil_append]
      exact ⟨.mk (by decide) (by decide) (by simp [formB]) (fun _ => ⟨h0, sort_once ho⟩) h2, by rw [cntT]; omega⟩
  ·cases l with
   | nil =>
    rw [seq_nil] at hk
    injection hk with h1 h2
    subst h1; subst h2
    exact ⟨[], seq0 ad [], fun x t e => by cases e⟩
   | cons x l =>
    have hbig : big (x :: l) = 1 + x.text.length + big l := rfl
    rcases Nat.lt_trichotomy x.ind n with hlt | heq | hgt
    ·rw [seq_low hlt] at hk
     injection hk with h1 h2
     subst h1; subst h2
     exact ⟨[], seq0 ad _, fun y t e he => by injection e with e1 e2; subst e1; omega⟩
    ·cases hh : hyp x.text with
     | false =>
      rw [seq_other heq hh] at hk
      injection hk with h1 h2
      subst h1; subst h2
      exact ⟨[], seq0 ad _, fun y t e _ he => by injection e with e1 e2; subst e1; rw [hh] at he; cases he⟩
     | true =>
      rw [seq_kid heq hh] at hk
      have hkid : ∀ d2 k2, kidS n x l = .ok d2 k2 → KidOk x l d2 k2 := fun d2 k2 h2 => by
       unfold kidS at h2
       split at h2
       ·rename_i h1
        have hc := cut1_lt h1
        have h3 := ih1 (cut1 x) l (by simp only [big]; omega) d2 k2 h2
        have h4 := blk_took h2
        obtain ⟨j, rfl⟩ : ∃ j, k2 = j + 1 := ⟨k2 - 1, by omega⟩
        have h5 : cntT d2 + big (l.drop j) ≤ 1 + (cut1 x).text.length + big l := h3.2
        refine ⟨h4.1, h4.2, h3.1, ?_⟩
        rw [Nat.add_sub_cancel]
        omega
       ·split at h2
        ·cases l with
         | nil => rename_i hdp; cases hdp
         | cons z l => exact kid_more (fun d m => ih1 z l (by simp only [big] at h ⊢; omega) d m) h2
        ·injection h2 with h3 h4
         subst h3; subst h4
         exact kid_nul (hyp_len hh)
      cases hkr : kidS n x l with
      | bad no e => rw [hkr] at hk; cases hk
      | ok d2 k2 =>
       rw [hkr] at hk
       obtain ⟨m, hm1, hm2⟩ := more_ok hk
       obtain ⟨g1, g2, g3, g4⟩ := hkid d2 k2 hkr
       have hb := big_drop (k2 - 1) l
       obtain ⟨ds, ⟨e1, e2, e3⟩, -⟩ := ih2 n (ad ++ [d2]) (l.drop (k2 - 1)) (by omega) d m hm1
       refine ⟨d2 :: ds, ⟨by rw [e1, List.append_assoc]; rfl, fun e he => ?_, ?_⟩, fun _ _ _ _ _ => by simp⟩
       ·rcases List.mem_cons.1 he with rfl | he
        ·exact g3
        ·exact e2 e he
       ·subst hm2
        rw [cntL, List.length_cons, show k2 - 1 + 1 + m = (k2 - 1 + m) + 1 by omega, List.drop_succ_cons]
        rw [List.drop_drop] at e3
        omega
    ·rw [seq_high hgt] at hk; cases hk
  ·cases l with
   | nil =>
    rw [map_nil] at hk
    injection hk with h1 h2
    subst h1; subst h2
    exact ⟨[], [], map0 ak ad [], fun x t p e => by cases e⟩
   | cons x l =>
    have hbig : big (x :: l) = 1 + x.text.length + big l := rfl
    rcases Nat.lt_trichotomy x.ind n with hlt | heq | hgt
    ·rw [map_low hlt] at hk
     injection hk with h1 h2
     subst h1; subst h2
     exact ⟨[], [], map0 ak ad _, fun y t p e he => by injection e with e1 e2; subst e1; omega⟩
    ·cases he : entP x.text with
     | none => rw [map_bad heq he] at hk; cases hk
     | some o =>
      cases o with
      | none =>
       rw [map_other heq he] at hk
       injection hk with h1 h2
       subst h1; subst h2
       exact ⟨[], [], map0 ak ad _, fun y t p e _ h9 => by injection e with e1 e2; subst e1; rw [he] at h9; cases h9⟩
      | some p =>
       obtain ⟨y, r⟩ := p
       by_cases hy : y ∈ ak
       ·rw [map_twice heq he hy] at hk; cases hk
       ·rw [map_kid heq he hy] at hk
        have hel := ent_len he
        have hkid : ∀ d2 k2, kidM n x l r = .ok d2 k2 → KidOk x l d2 k2 := fun d2 k2 h2 => by
         unfold kidM at h2
         split at h2
         ·have h3 := val_one h2
          have h4 := val_fine h2
          subst h3
          refine ⟨Nat.le_refl _, by omega, h4.1, ?_⟩
          show cntT d2 + 1 + big l ≤ _
          omega
         ·split at h2
          ·cases l with
           | nil => rename_i hdp; cases hdp
           | cons z l => exact kid_more (fun d m => ih1 z l (by simp only [big] at h ⊢; omega) d m) h2
          ·injection h2 with h3 h4
           subst h3; subst h4
           exact kid_nul (by omega)
        cases hkr : kidM n x l r with
        | bad no e => rw [hkr] at hk; cases hk
        | ok d2 k2 =>
         rw [hkr] at hk
         obtain ⟨m, hm1, hm2⟩ := more_ok hk
         obtain ⟨g1, g2, g3, g4⟩ := hkid d2 k2 hkr
         have hb := big_drop (k2 - 1) l
         obtain ⟨ks, ds, ⟨e1, e0, eo, e2, e3⟩, -⟩ := ih3 n (ak ++ [y]) (ad ++ [d2]) (l.drop (k2 - 1)) (by omega) d m hm1
         refine ⟨y :: ks, d2 :: ds, ⟨by rw [e1, List.append_assoc, List.append_assoc]; rfl, by rw [List.length_cons, List.length_cons, e0], fun h => ?_, fun e he => ?_, ?_⟩, fun _ _ _ _ _ _ _ => by simp⟩
         ·have := eo (once_snoc h hy)
          rw [List.append_assoc] at this
          exact this
         ·rcases List.mem_cons.1 he with rfl | he
          ·exact g3
          ·exact e2 e he
         ·subst hm2
          rw [cntL, List.length_cons, show k2 - 1 + 1 + m = (k2 - 1 + m) + 1 by omega, List.drop_succ_cons]
          rw [List.drop_drop] at e3
          omega
    ·rw [map_high hgt] at hk; cases hk
theorem blk_fine {x : Ln} {l : List Ln} {d : Nd} {k : Nat} (h : blkB (x :: l) = .ok d k) : Fine d ∧ cntT d ≤ big (x :: l) := by
 have := (blk_count _).1 x l (Nat.le_refl _) d k h
 exact ⟨this.1, by omega⟩
end B10
end Go.Proofs.YtmdgpejedbkkdaaGreatDoor
namespace Go.Proofs.YtmdgpejedbkkdaaGreatDoor
open Go.RowKit Go.Sort
open Nw N8 Q6 F9 B10
namespace B10
def entN (K : Option (Option (L8 × L8))) : Int := match K with | none => -1 | some none => 0 | some (some _) => 1
def entY (K : Option (Option (L8 × L8))) : L8 := match K with | some (some p) => p.1 | _ => []
def entR (K : Option (Option (L8 × L8))) : L8 := match K with | some (some p) => p.2 | _ => []
theorem ent_zero {l : L8} (h : (decide (l = []) || hyp l || decide (l.headD 0 = 91) || decide (l.headD 0 = 123)) = true) : entP l = some none := by
 unfold entP; exact if_pos h
theorem ent_quote {l : L8} (h : (decide (l = []) || hyp l || decide (l.headD 0 = 91) || decide (l.headD 0 = 123)) = false) (hq : isQ (l.headD 0) = true) : entP l = match scnP l with | none => some none | some p => if mrk l p.2 then some (some (p.1, bhd l p.2)) else some none := by
 unfold entP
 rw [if_neg (by rw [h]; decide), if_pos hq]
 cases scnP l <;> rfl
theorem ent_plain {l : L8} (h : (decide (l = []) || hyp l || decide (l.headD 0 = 91) || decide (l.headD 0 = 123)) = false) (hq : isQ (l.headD 0) = false) : entP l = match fstM l 0 with | none => some none | some k => if plainB (l.take k) && !decide (l.take k = [60, 60]) then some (some (l.take k, bhd l k)) else none := by
 unfold entP
 rw [if_neg (by rw [h]; decide), if_neg (by rw [hq]; decide)]
 cases fstM l 0 <;> rfl
theorem fst_go {l : L8} {k : Nat} (h : k < l.length) (hm : mrk l k = false) : fstM l k = fstM l (k + 1) := by rw [fstM, dif_pos h, hm, if_neg Bool.false_ne_true]
theorem fst_at {l : L8} {k : Nat} (h : k < l.length) (hm : mrk l k = true) : fstM l k = some k := by rw [fstM, dif_pos h, if_pos hm]
theorem fst_end {l : L8} {k : Nat} (h : l.length ≤ k) : fstM l k = none := by rw [fstM, dif_neg (by omega)]
end B10
end Go.Proofs.YtmdgpejedbkkdaaGreatDoor
namespace Go.Proofs.YtmdgpejedbkkdaaGreatDoor
section
open Go.RowKit Go.Sort
open Q6
theorem from_data (s : ByteArray) (k : Nat) : (s.extract k s.size).data.toList = s.data.toList.drop k := by rw [Lib.extract_from]
end
end Go.Proofs.YtmdgpejedbkkdaaGreatDoor
namespace Go.Proofs.YtmdgpejedbkkdaaGreatDoor
namespace F9
open Nw N8 Q6
theorem blk_idem (l : L8) : blk (l.drop (blk l)) = 0 := by
 induction l with
 | nil => rfl
 | cons c l ih =>
  by_cases hc : c = 32
  ·rw [blk_cons, if_pos hc]; exact ih
  ·rw [blk_no hc]; exact blk_no hc
def rowR (t : L8) : Option (Nd × Nat) := if (t.drop (blk t)).headD 0 = 93 then some (.mk 2 [] [] [], blk t + 1) else rowP t []
def prsR (t : L8) : Option (Nd × Nat) := if (t.drop (blk t)).headD 0 = 125 then some (.mk 3 [] [] [], blk t + 1) else prsP t [] []
theorem val_row (t : L8) : valP (91 :: t) = (rowR t).map (bump 1) := by
 rw [valP, if_pos rfl]
 unfold rowR
 split
 ·show some _ = some _
  simp only [bump]
  congr 2
  omega
 ·rfl
theorem val_prs (t : L8) : valP (123 :: t) = (prsR t).map (bump 1) := by
 rw [valP, if_neg (by decide), if_pos rfl]
 unfold prsR
 split
 ·show some _ = some _
  simp only [bump]
  congr 2
  omega
 ·rfl
theorem row_eq {d : Nd} {l : L8} {acc : List Nd} {m n : Nat} (h : valP (l.drop (blk l)) = some (d, m)) (hm : m ≠ 0) (hn : blk l + m + blk (l.drop (blk l + m)) = n) :
  rowP l acc = if (l.drop n).headD 0 = 93 then some (.mk 2 [] [] (acc ++ [d]), n + 1) else if (l.drop n).headD 0 = 44 then (rowP (l.drop (n + 1)) (acc ++ [d])).map (bump (n + 1)) else none := by
 subst hn
 rw [rowP, h]
 show (if m = 0 then none else _) = _
 rw [if_neg hm]
 split
 ·rename_i h9
  rw [h9]
  rfl
 ·rename_i c t h9
  have e : l.drop (blk l + m + blk (l.drop (blk l + m)) + 1) = t := by rw [← List.drop_drop, h9]; rfl
  rw [h9, e]
  rfl
theorem row_none {l : L8} {acc : List Nd} (h : valP (l.drop (blk l)) = none) : rowP l acc = none := by rw [rowP, h]
theorem row_zero {d : Nd} {l : L8} {acc : List Nd} (h : valP (l.drop (blk l)) = some (d, 0)) : rowP l acc = none := by rw [rowP, h]; exact if_pos rfl
theorem prs_none {l : L8} {ak : List L8} {ad : List Nd} (h : keyP (l.drop (blk l)) = none) : prsP l ak ad = none := by
 rw [prsP]
 split
 ·rfl
 ·rename_i h9; rw [h] at h9; cases h9
theorem prs_twice {l : L8} {ak : List L8} {ad : List Nd} {x : L8} {j : Nat} (h : keyP (l.drop (blk l)) = some (x, j)) (hx : x ∈ ak) : prsP l ak ad = none := by
 rw [prsP]
 split
 ·rfl
 ·rename_i h9
  rw [h] at h9
  injection h9 with h9
  injection h9 with h9 h10
  subst h9
  rw [if_pos hx]
theorem prs_noval {l : L8} {ak : List L8} {ad : List Nd} {x : L8} {j a : Nat} (h : keyP (l.drop (blk l)) = some (x, j)) (ha : blk l + j + blk (l.drop (blk l + j)) = a) (hv : valP (l.drop a) = none) : prsP l ak ad = none := by
 subst ha
 rw [prsP]
 split
 ·rfl
 ·rename_i h9
  rw [h] at h9
  injection h9 with h9
  injection h9 with h9 h10
  subst h9; subst h10
  rw [hv]
  split <;> rfl
theorem prs_eq {x : L8} {d : Nd} {l : L8} {ks : List L8} {ds : List Nd} {j a m n : Nat} (hk : keyP (l.drop (blk l)) = some (x, j)) (hx : x ∉ ks) (ha : blk l + j + blk (l.drop (blk l + j)) = a) (h : valP (l.drop a) = some (d, m)) (hn : a + m + blk (l.drop (a + m)) = n) :
  prsP l ks ds = if (l.drop n).headD 0 = 125 then some (.mk 3 [] (ks ++ [x]) (ds ++ [d]), n + 1) else if (l.drop n).headD 0 = 44 then (prsP (l.drop (n + 1)) (ks ++ [x]) (ds ++ [d])).map (bump (n + 1)) else none := by
 cases hd : l.drop n with
 | nil =>
  subst ha
  subst hn
  rw [prsP]
  split
  ·rfl
  ·rename_i x9 j9 h9
   rw [hk] at h9
   injection h9 with h9
   injection h9 with h9 h10
   subst h9; subst h10
   rw [if_neg hx, h]
   show (match _h : l.drop _ with | [] => none | c :: t => _) = _
   split
   ·rfl
   ·rename_i h9; rw [hd] at h9; cases h9
 | cons c t =>
  have e : l.drop (n + 1) = t := by rw [← List.drop_drop, hd]; rfl
  rw [prs_step hk hx ha h hn hd, e]
  rfl
end F9
end Go.Proofs.YtmdgpejedbkkdaaGreatDoor
namespace Go.Proofs.YtmdgpejedbkkdaaGreatDoor
section
open Go.RowKit Go.Sort
open Q6
def cutN (l : List UInt8) (k : Nat) : Nat := k + indN (l.drop k)
theorem cutN_le {l : List UInt8} {k : Nat} (h : k ≤ l.length) : cutN l k ≤ l.length := by
 unfold cutN
 have := indN_le (l.drop k)
 rw [List.length_drop] at this
 omega
end
end Go.Proofs.YtmdgpejedbkkdaaGreatDoor
namespace Go.Proofs.YtmdgpejedbkkdaaGreatDoor
open Go.RowKit Go.Sort
open Nw N8 Q6 F9 B10 Go.ChangeShapes Go.WideShapes
namespace B10
def FineB (ls : List Ln) : Prop := ls.length ≤ 100000 ∧ ∀ (j : Nat) (h : j < ls.length), (ls[j]'h).ind + (ls[j]'h).text.length ≤ 100000
theorem cut1_fine {x : Ln} (h1 : 1 < x.text.length) (h : x.ind + x.text.length ≤ 100000) : (cut1 x).ind + (cut1 x).text.length ≤ 100000 := by
 have h2 : indN (x.text.drop 1) ≤ (x.text.drop 1).length := indN_le _
 rw [List.length_drop] at h2
 show x.ind + (1 + indN (x.text.drop 1)) + (x.text.drop (1 + indN (x.text.drop 1))).length ≤ _
 rw [List.length_drop]
 omega
theorem fineB_set {ls : List Ln} (hf : FineB ls) {j : Nat} (hj : j < ls.length) (h1 : 1 < (ls[j]'hj).text.length) : FineB (ls.set j (cut1 (ls[j]'hj))) := by
 refine ⟨by rw [List.length_set]; exact hf.1, fun i hi => ?_⟩
 rw [List.length_set] at hi
 by_cases hij : j = i
 ·subst hij
  rw [List.getElem_set_self]
  exact cut1_fine h1 (hf.2 j hj)
 ·rw [List.getElem_set_ne hij]
  exact hf.2 i hi
theorem set_drop {ls : List Ln} {j : Nat} (hj : j < ls.length) (x : Ln) : (ls.set j x).drop j = x :: ls.drop (j + 1) := by
 rw [List.drop_eq_getElem_cons (by rw [List.length_set]; exact hj), List.getElem_set_self, List.drop_set, if_pos (Nat.lt_succ_self j)]
theorem more_zero (r : Res) : r.more 0 = r := by
 cases r with
 | bad n e => rfl
 | ok d k => show Res.ok d (0 + k) = _; rw [Nat.zero_add]
theorem more_more (r : Res) (a b : Nat) : (r.more a).more b = r.more (b + a) := by
 cases r with
 | bad n e => rfl
 | ok d k => show Res.ok d (b + (a + k)) = Res.ok d (b + a + k); rw [Nat.add_assoc]
theorem kids_took {n : Nat} {x : Ln} {l : List Ln} {d : Nd} {k : Nat} (h : kidS n x l = .ok d k) : 1 ≤ k ∧ k ≤ l.length + 1 := by
 unfold kidS at h
 split at h
 ·exact blk_took h
 ·split at h
  ·obtain ⟨m, h1, h2⟩ := more_ok h
   cases l with
   | nil => rename_i hdp; cases hdp
   | cons z l => have := blk_took h1; exact ⟨by omega, by rw [List.length_cons]; omega⟩
  ·injection h with h1 h2; exact ⟨by omega, by omega⟩
theorem kidm_took {n : Nat} {x : Ln} {l : List Ln} {r : L8} {d : Nd} {k : Nat} (h : kidM n x l r = .ok d k) : 1 ≤ k ∧ k ≤ l.length + 1 := by
 unfold kidM at h
 split at h
 ·have := val_one h; exact ⟨by omega, by omega⟩
 ·split at h
  ·obtain ⟨m, h1, h2⟩ := more_ok h
   cases l with
   | nil => rename_i hdp; cases hdp
   | cons z l => have := blk_took h1; exact ⟨by omega, by rw [List.length_cons]; omega⟩
  ·injection h with h1 h2; exact ⟨by omega, by omega⟩
end B10
section
variable {w : World} {g : Nat} {t : TypeId} {a b c d e f h : Value}
end
end Go.Proofs.YtmdgpejedbkkdaaGreatDoor
namespace Go.Proofs.YtmdgpejedbkkdaaGreatDoor
section
open Go.RowKit Go.Sort
open Nw N8 Q6 F9 B10 Go.ChangeShapes Go.WideShapes
def ParL (P : Nd × Nat × Int) (w : World) (e : Ending) (w' : World) : Prop := ∃ (k : Int) (t : ByteArray) (a : Option Addr) (n c : Nat) (A : Option Addr) (m q : Nat),
 e = .returned (.tuple #[.agg #[.int .i64 k, .string t, .slice a n c, .slice A m q], .int .i64 (P.2.1 : Int), .int .i64 P.2.2]) ∧ NdW w' P.1 (.int .i64 k) (.string t) (.slice a n c) (.slice A m q) ∧ Below w.heap.size w w'
theorem parl_ret {w W : World} {P : Nd × Nat × Int} {d : Nd} {kk : Int} {t : ByteArray} {a : Option Addr} {nn c : Nat} {A : Option Addr} {m q : Nat} (hb : Below w.heap.size w W)
  (nd : NdC (fun b => b ≠ w.heap.size ∧ b < W.heap.size) W d (.int .i64 kk) (.string t) (.slice a nn c) (.slice A m q)) {no E : Int} (hP : P.1 = d ∧ (P.2.1 : Int) = no ∧ P.2.2 = E) :
  ParL P w (.returned (.tuple #[.agg #[.int .i64 kk, .string t, .slice a nn c, .slice A m q], .int .i64 no, .int .i64 E])) (p4 W w.heap.size (.int .i64 kk) (.string t) (.slice a nn c) (.slice A m q)) := by
 obtain ⟨h1, h2, h3⟩ := hP
 subst h2; subst h3
 refine ⟨_, _, _, _, _, _, _, _, rfl, ?_, below_p4 hb (Nat.le_refl _) _ _ _ _⟩
 rw [h1]
 exact NdC.keep (fun b hb => ⟨by rw [p4_size]; exact hb.2, p4_oth b hb.1 _ _ _ _⟩) _ nd
end
end Go.Proofs.YtmdgpejedbkkdaaGreatDoor
namespace Go.Proofs.YtmdgpejedbkkdaaGreatDoor
open Go.RowKit Go.Sort
open Nw N8 Q6 F9 B10
namespace B10
end B10
theorem al_below (w : World) (o : Obj) : Below w.heap.size w (w.alloc o) := (Below.refl _ _).alloc (Nat.le_refl _) _
def BX (W : World) (g : Nat) (d : Nd) (c0 c1 c2 c3 : Value) : Prop := Row4 W g 25 c0 c1 c2 c3 ∧ NdW W d c0 c1 c2 c3
theorem BX.go {W W' : World} {g : Nat} {d : Nd} {c0 c1 c2 c3 : Value} (h : BX W g d c0 c1 c2 c3) (hb : Below W.heap.size W W') : BX W' g d c0 c1 c2 c3 := ⟨h.1.below hb h.1.lt, h.2.below hb⟩
theorem bx_make {w : World} {d : Nd} {c0 c1 c2 c3 : Value} (h : NdW w d c0 c1 c2 c3) : BX (w.alloc (.cells #[c0, c1, c2, c3] 25)) w.heap.size d c0 c1 c2 c3 :=
 ⟨Row4.make w _ _ _ _ _, h.below (al_below w _)⟩
theorem b_next {w w1 w2 : World} (h : Below w.heap.size w w1) (g : Below w1.heap.size w1 w2) : Below w.heap.size w w2 := h.trans (g.mono h.size)
end Go.Proofs.YtmdgpejedbkkdaaGreatDoor
namespace Go.Proofs.YtmdgpejedbkkdaaGreatDoor
section
open Go.RowKit Go.Sort
open Q6
theorem Cut_in (no ind : Int) (k m : Nat) (t q : ByteArray) (w : World) (ht : t.size ≤ 100000) (hi0 : 0 ≤ ind) (hi1 : ind ≤ 100000) (hk : k ≤ t.size) (hm : cutN t.data.toList k = m) (hq : t.data.toList.drop m = q.data.toList) :
  Calls Tryz.prog 103 #[.agg #[.int .i64 no, .int .i64 ind, .string t], .int .i64 (k : Int)] w fun e w' => e = .returned (.agg #[.int .i64 no, .int .i64 (ind + (m : Int)), .string q]) ∧ Below w.heap.size w w' := by
 have hmt : m ≤ t.size := by rw [← hm, ← len_eq]; exact cutN_le (by rw [len_eq]; exact hk)
 have hqs : q.size + m = t.size := by
  have h1 : q.data.toList.length = q.size := len_eq q
  rw [← hq, List.length_drop, len_eq] at h1
  omega
 have HT := hid (fun w0 => trimL_any (t.extract k t.size) q w0 (by rw [from_data, List.drop_drop, ← hq, ← hm]; rfl))
 have kz : (k : Int) ≤ (t.size : Int) := by omega
 have k0 : ¬ (t.size : Int) < (k : Int) := by omega
 have e1 : ind + (t.size : Int) - (q.size : Int) = ind + (m : Int) := by omega
 have e2 : IntKind.i64.wrap (ind + (m : Int)) = ind + (m : Int) := IntWalk.i64_in _ (by omega)
 have e3 : IntKind.i64.wrap (ind + (t.size : Int)) = ind + (t.size : Int) := IntWalk.i64_in _ (by omega)
 clear hm hq hqs
 go_enter Tryz.func103, Tryz.ntmps103
 go_wp2_with (go_at_call 67; refine (HT.out _).mono ?_; rintro e w' ⟨rfl, rfl⟩)
 exact bodyPost_ret (v := .agg #[.int .i64 no, .int .i64 (ind + (m : Int)), .string q]) (by simp [results, Tryz.results103, go_sem]) rfl ⟨rfl, by first | exact ((Below.refl _ _).alloc (Nat.le_refl _) _).alloc (by simp) _ | exact (((((Below.refl _ _).alloc (Nat.le_refl _) _).alloc (by simp) _).setCell (by simp) _).setCell (by simp) _).setCell (by simp) _⟩
end
end Go.Proofs.YtmdgpejedbkkdaaGreatDoor
