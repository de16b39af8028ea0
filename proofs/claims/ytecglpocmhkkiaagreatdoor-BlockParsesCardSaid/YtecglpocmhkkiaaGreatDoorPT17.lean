/- RefBlo1, BloCount, RefBlo2 -/
import Derived.BigQuiet
import Derived.Test.YtecglpocmhkkiaaGreatDoorPT12
import Derived.Test.YtecglpocmhkkiaaGreatDoorPT16
import Derived.Test.YtecglpocmhkkiaaGreatDoorPT3
set_option linter.unusedVariables false
set_option linter.unusedSimpArgs false
set_option maxRecDepth 100000
set_option maxHeartbeats 16000000
open Go.Lib (hid)
namespace Go.Proofs.YtecglpocmhkkiaaGreatDoor
section
open Go.RowKit Go.Sort
open Nw N8 Q6 F9 B10
theorem RHyp_any (s : ByteArray) (b : Bool) (w : World) (hs : s.size ≤ 1000000) (h : hyp s.data.toList = b) :
  Calls Tryz.prog 13 #[.string s] w fun e w' => e = .returned (.bool b) ∧ w = w' := by
 obtain ⟨n, hn⟩ : ∃ n, s.size = n := ⟨_, rfl⟩
 have hlen : s.data.toList.length = n := (len_eq s).trans hn
 by_cases h0 : n = 0
 ·have e0 : s.data.toList = [] := List.length_eq_zero_iff.1 (hlen.trans h0)
  obtain rfl := bytes_of (l := #[]) e0
  have HB : Hid (false = b) := hid (by rw [← h]; rfl)
  clear h hlen e0 h0 hn hs
  go_enter Tryz.func13, Tryz.ntmps13
  go_wp2
  go_ret
  exact ⟨ret_bb HB.out, rfl⟩
 have hp : 0 < s.size := by omega
 have hpz : (0 : Int) < (n : Int) := by omega
 obtain ⟨c, hc⟩ : ∃ c, s[0]'hp = c := ⟨_, rfl⟩
 unfold hyp at h
 rw [headD_getD, getd s 0 hp, hc, hlen] at h
 cases h45 : isC 45 c with
 | false =>
  have m45 := (isC_beq 45 c 45 rfl).trans h45
  have HB : Hid (false = b) := hid (by rw [← h, show decide (c = 45) = false from h45]; rfl)
  clear h h45 hlen
  go_enter Tryz.func13, Tryz.ntmps13
  go_wp2
  go_ret
  exact ⟨ret_bb HB.out, rfl⟩
 | true =>
  have m45 := (isC_beq 45 c 45 rfl).trans h45
  rw [show decide (c = 45) = true from h45, Bool.true_and] at h
  by_cases h1 : n = 1
  ·have e1 : ((n : Int) == 1) = true := beq_iff_eq.2 (by omega)
   have HB : Hid (true = b) := hid (by rw [← h, decide_eq_true h1]; rfl)
   clear h h45 hlen h1
   go_enter Tryz.func13, Tryz.ntmps13
   go_wp2
   go_ret
   exact ⟨ret_bb HB.out, rfl⟩
  ·have e1 : ((n : Int) == 1) = false := beq_eq_false_iff_ne.2 (by omega)
   have hp1 : 1 < s.size := by omega
   have hp1z : (1 : Int) < (n : Int) := by omega
   obtain ⟨d, hd⟩ : ∃ d, s[1]'hp1 = d := ⟨_, rfl⟩
   have m32 := isC_beq 32 d 32 rfl
   rw [decide_eq_false h1, Bool.false_or, getd s 1 hp1, hd] at h
   rw [show isC 32 d = b from h] at m32
   clear h h45 hlen h1
   go_enter Tryz.func13, Tryz.ntmps13
   go_wp2
   go_ret
   exact ⟨rfl, rfl⟩
theorem RMrk_any (s : ByteArray) (k : Nat) (b : Bool) (w : World) (n : Nat) (hn : s.size = n) (hs : n ≤ 1000000) (hk : k ≤ n) (h : mrk s.data.toList k = b) :
  Calls Tryz.prog 28 #[.string s, .int .i64 (k : Int)] w fun e w' => e = .returned (.bool b) ∧ w = w' := by
 have hlen : s.data.toList.length = n := (len_eq s).trans hn
 unfold mrk at h
 rw [hlen] at h
 by_cases hlt : k < n
 ·have hks : k < s.size := by omega
  have hkz : (k : Int) < (n : Int) := by omega
  have wk : IntKind.i64.wrap ((k : Int) + 1) = (k : Int) + 1 := IntWalk.i64_in _ (by omega)
  obtain ⟨c, hc⟩ : ∃ c, s[k]'hks = c := ⟨_, rfl⟩
  rw [getd s k hks, hc] at h
  cases h58 : isC 58 c with
  | false =>
   have m58 := (isC_beq 58 c 58 rfl).trans h58
   have HB : Hid (false = b) := hid (by rw [← h, show decide (c = 58) = false from h58]; rfl)
   clear h h58 hlen
   go_enter Tryz.func28, Tryz.ntmps28
   go_wp2
   go_ret
   exact ⟨ret_bb HB.out, rfl⟩
  | true =>
   have m58 := (isC_beq 58 c 58 rfl).trans h58
   rw [show decide (c = 58) = true from h58, Bool.true_and] at h
   by_cases h1 : k + 1 = n
   ·have e1 : ((k : Int) + 1 == (n : Int)) = true := beq_iff_eq.2 (by omega)
    have HB : Hid (true = b) := hid (by rw [← h, decide_eq_true h1]; rfl)
    clear h h58 hlen h1
    go_enter Tryz.func28, Tryz.ntmps28
    go_wp2
    go_ret
    exact ⟨ret_bb HB.out, rfl⟩
   ·have e1 : ((k : Int) + 1 == (n : Int)) = false := beq_eq_false_iff_ne.2 (by omega)
    have hp1 : k + 1 < s.size := by omega
    have pj : 0 ≤ (k : Int) + 1 := by omega
    have tj : ((k : Int) + 1).toNat = k + 1 := by omega
    have lj : (k : Int) + 1 < (n : Int) := by omega
    obtain ⟨d, hd⟩ : ∃ d, s[k + 1]'hp1 = d := ⟨_, rfl⟩
    have m32 := isC_beq 32 d 32 rfl
    rw [decide_eq_false h1, Bool.false_or, getd s (k + 1) hp1, hd] at h
    rw [show isC 32 d = b from h] at m32
    clear h h58 hlen h1
    go_enter Tryz.func28, Tryz.ntmps28
    go_wp2
    go_ret
    exact ⟨rfl, rfl⟩
 ·have hkz : ¬ (k : Int) < (n : Int) := by omega
  have HB : Hid (false = b) := hid (by
   rw [← h, List.getD_eq_getElem?_getD, List.getElem?_eq_none (by rw [hlen]; omega)]
   rfl)
  clear h hlen
  go_enter Tryz.func28, Tryz.ntmps28
  go_wp2
  go_ret
  exact ⟨ret_bb HB.out, rfl⟩
theorem RBhd_any (s : ByteArray) (k : Nat) (w : World) (n : Nat) (hn : s.size = n) (hs : n ≤ 1000000) (hk : k < n) (q : ByteArray) (hq : bhd s.data.toList k = q.data.toList) :
  Calls Tryz.prog 29 #[.string s, .int .i64 (k : Int)] w fun e w' => e = .returned (.string q) ∧ w = w' := by
 obtain ⟨R, hR⟩ : ∃ R, k + 1 + blk (s.data.toList.drop (k + 1)) = R := ⟨_, rfl⟩
 unfold bhd at hq
 rw [hR] at hq
 have HR0 := hid hR
 have HQ := hid hq
 have HLEN : Hid (s.data.toList.length = n) := hid ((len_eq s).trans hn)
 have wk : IntKind.i64.wrap ((k : Int) + 1) = ((k + 1 : Nat) : Int) := IntWalk.i64_in _ (by omega)
 obtain ⟨k1, hk1⟩ : ∃ k1, k + 1 = k1 := ⟨_, rfl⟩
 rw [hk1] at HR0 wk
 have hk1n : k1 ≤ n := by omega
 clear hR hq hk1
 go_enter Tryz.func29, Tryz.ntmps29
 go_wp2
 go_loop [1] (fun si => ∃ j : Nat, j ≤ n ∧ si = .int .i64 (j : Int) ∧ Hid (j + blk (s.data.toList.drop j) = R)) (fun si => n - (intOf si).toNat)
 case atStart => exact ⟨k1, hk1n, rfl, HR0⟩
 case round =>
  clear HR0
  obtain ⟨j, hj, rfl, HR⟩ := hrel
  by_cases hlt : j < n
  ·have hjs : j < s.size := by omega
   have hjz : (j : Int) < (n : Int) := by omega
   obtain ⟨c, hc⟩ : ∃ c, s[j]'hjs = c := ⟨_, rfl⟩
   have hdr := drop_cons (l := s.data.toList) (k := j) (by rw [HLEN.out]; exact hlt)
   rw [getd s j hjs, hc] at hdr
   have HD := hid hdr
   clear hdr
   by_cases h32 : isC 32 c = true
   ·have m := (isC_beq 32 c 32 rfl).trans h32
    have HX : Hid (j + 1 + blk (s.data.toList.drop (j + 1)) = R) := hid (by
     have := HR.out
     rw [HD.out, blk_cons, if_pos (isC_iff.1 h32)] at this
     omega)
    clear h32
    go_wp2
    go_round
    case rel => exact ⟨j + 1, by omega, by go_num, HX⟩
    case measure => simp [intOf]; omega
   ·have h32 := Bool.eq_false_iff.2 h32
    have m := (isC_beq 32 c 32 rfl).trans h32
    have HX : Hid (j = R) := hid (by
     have := HR.out
     rw [HD.out, blk_no (of_decide_eq_false h32)] at this
     omega)
    have le1 : (j : Int) ≤ (n : Int) := by omega
    clear h32
    go_wp2
    go_ret
    exact ⟨ret_s9 (by rw [← HQ.out, ← HX.out, Lib.extract_data, ← HLEN.out, List.take_of_length_le (by rw [List.length_drop]; omega)]), rfl⟩
  ·obtain rfl : j = n := by omega
   have HX : Hid (j = R) := hid (by
    have := HR.out
    rw [List.drop_of_length_le (by rw [HLEN.out]; exact Nat.le_refl _)] at this
    exact this)
   go_wp2
   go_ret
   exact ⟨ret_s9 (by rw [← HQ.out, ← HX.out, List.drop_of_length_le (by rw [HLEN.out]; exact Nat.le_refl _)]; rfl), rfl⟩
end
end Go.Proofs.YtecglpocmhkkiaaGreatDoor
namespace Go.Proofs.YtecglpocmhkkiaaGreatDoor
namespace B10
open Nw N8 Q6 F9
theorem fine_txt9 (t : L8) : Fine (txt t) := (got_txt (m := (wtx t).length) (by omega)).1
theorem scl_fine {row : Bool} {l : L8} {d : Nd} (h : sclS row l = some d) : Fine d ∧ cntT d = 1 := by
 unfold sclS at h
 split at h
 ·injection h with h; subst h; exact ⟨(got_nul 0).1, rfl⟩
 ·split at h
  ·cases hs : scnP l with
   | none => rw [hs] at h; cases h
   | some p =>
    rw [hs] at h
    injection h with h; subst h
    exact ⟨fine_txt9 _, by unfold txt; rw [cntT, cntL]⟩
  ·by_cases hb : (if row then rowB l else plainB l) = true
   ·rw [if_pos hb] at h; injection h with h; subst h; exact ⟨fine_txt9 _, by unfold txt; rw [cntT, cntL]⟩
   ·rw [if_neg hb] at h; cases h
theorem val_fine {l : L8} {no : Nat} {d : Nd} {k : Nat} (h : valL l no = .ok d k) : Fine d ∧ cntT d ≤ l.length + 1 := by
 unfold valL at h
 split at h
 ·split at h
  ·rename_i hE
   injection h with h1 h2
   subst h1
   cases hP : parP l with
   | none => rw [hP] at hE; exact absurd hE (by decide)
   | some e =>
    rw [hP] at hE
    cases hok : okT 2000 e with
    | true =>
     rw [← (par_yes hok).2]
     have := par_got hP
     exact ⟨this.1, this.2.1⟩
    | false =>
     rw [← (par_no hok).1] at hE
     exact absurd hE (by decide)
  ·cases h
 ·split at h
  ·cases h
  ·rename_i hs
   injection h with h1 h2
   subst h1
   have := scl_fine hs
   exact ⟨this.1, by omega⟩
theorem mrk_lt {l : L8} {k : Nat} (h : mrk l k = true) : k < l.length := by
 unfold mrk at h
 rw [Bool.and_eq_true] at h
 rcases Nat.lt_or_ge k l.length with g | g
 ·exact g
 ·have h1 := of_decide_eq_true h.1
  rw [List.getD_eq_getElem?_getD, List.getElem?_eq_none g] at h1
  exact absurd h1 (by decide)
theorem bhd_len {l : L8} {k : Nat} (h : k < l.length) : (bhd l k).length + 1 ≤ l.length := by
 unfold bhd
 rw [List.length_drop]
 omega
theorem fst_mrk : ∀ (n : Nat) (l : L8) (k j : Nat), l.length - k ≤ n → fstM l k = some j → mrk l j = true
 | 0, l, k, j, hn, h => by
  rw [fstM, dif_neg (by omega)] at h; cases h
 | n + 1, l, k, j, hn, h => by
  rw [fstM] at h
  split at h
  ·split at h
   ·injection h with h; subst h; assumption
   ·exact fst_mrk n l (k + 1) j (by omega) h
  ·cases h
theorem ent_len {l y r : L8} (h : entP l = some (some (y, r))) : r.length + 1 ≤ l.length := by
 unfold entP at h
 split at h
 ·injection h with h; cases h
 ·split at h
  ·split at h
   ·injection h with h; cases h
   ·split at h
    ·rename_i hm
     injection h with h; injection h with h; injection h with h1 h2
     subst h2
     exact bhd_len (mrk_lt hm)
    ·injection h with h; cases h
  ·split at h
   ·injection h with h; cases h
   ·rename_i k hk
    split at h
    ·injection h with h; injection h with h; injection h with h1 h2
     subst h2
     exact bhd_len (mrk_lt (fst_mrk _ l 0 k (Nat.le_refl _) hk))
    ·cases h
theorem hyp_len {l : L8} (h : hyp l = true) : 1 ≤ l.length := by
 cases l with
 | nil => exact absurd h (by decide)
 | cons c l => simp
def KidOk (x : Ln) (l : List Ln) (d : Nd) (k : Nat) : Prop := 1 ≤ k ∧ k ≤ l.length + 1 ∧ Fine d ∧ cntT d + 1 + big (l.drop (k - 1)) ≤ big (x :: l)
def SeqOk (ad : List Nd) (l : List Ln) (d : Nd) (k : Nat) (ds : List Nd) : Prop := d = .mk 2 [] [] (ad ++ ds) ∧ (∀ e ∈ ds, Fine e) ∧ cntL ds + ds.length + big (l.drop k) ≤ big l
def MapOk (ak : List L8) (ad : List Nd) (l : List Ln) (d : Nd) (k : Nat) (ks : List L8) (ds : List Nd) : Prop := d = .mk 3 [] (ak ++ ks) (ad ++ ds) ∧ ks.length = ds.length ∧ (Once ak → Once (ak ++ ks)) ∧ (∀ e ∈ ds, Fine e) ∧ cntL ds + ds.length + big (l.drop k) ≤ big l
theorem kid_more {z : Ln} {l : List Ln} {x : Ln} {d : Nd} {k : Nat} (ih : ∀ d m, blkB (z :: l) = .ok d m → Fine d ∧ cntT d + big ((z :: l).drop m) ≤ big (z :: l)) (h : (blkB (z :: l)).more 1 = .ok d k) : KidOk x (z :: l) d k := by
 obtain ⟨m, hm1, hm2⟩ := more_ok h
 have h1 := ih d m hm1
 have h2 := blk_took hm1
 subst hm2
 refine ⟨by omega, by simp; omega, h1.1, ?_⟩
 rw [Nat.add_sub_cancel_left]
 have : big (x :: z :: l) = 1 + x.text.length + big (z :: l) := rfl
 omega
theorem kid_nul {x : Ln} {l : List Ln} (h : 1 ≤ x.text.length) : KidOk x l nul 1 := by
 refine ⟨Nat.le_refl _, by omega, (got_nul 0).1, ?_⟩
 have : big (x :: l) = 1 + x.text.length + big l := rfl
 have e : cntT nul = 1 := rfl
 rw [e]
 show 1 + 1 + big l ≤ _
 omega
theorem blk_count : ∀ (N : Nat),
  (∀ x l, 2 * big (x :: l) + 1 ≤ N → ∀ d k, blkB (x :: l) = .ok d k → Fine d ∧ cntT d + big ((x :: l).drop k) ≤ big (x :: l)) ∧
  (∀ n ad l, 2 * big l ≤ N → ∀ d k, seqB n ad l = .ok d k → ∃ ds, SeqOk ad l d k ds ∧ (∀ x t, l = x :: t → x.ind = n → hyp x.text = true → 1 ≤ ds.length)) ∧
  (∀ n ak ad l, 2 * big l ≤ N → ∀ d k, mapB n ak ad l = .ok d k → ∃ ks ds, MapOk ak ad l d k ks ds ∧ (∀ x t p, l = x :: t → x.ind = n → entP x.text = some (some p) → p.1 ∉ ak → 1 ≤ ds.length)) := by
 intro N
 have seq0 : ∀ (ad : List Nd) (l : List Ln), SeqOk ad l (.mk 2 [] [] ad) 0 [] := fun ad l => ⟨by rw [List.append_nil], fun e he => (List.not_mem_nil he).elim, by rw [cntL]; show 0 + 0 + big l ≤ _; omega⟩
 have map0 : ∀ (ak : List L8) (ad : List Nd) (l : List Ln), MapOk ak ad l (.mk 3 [] ak ad) 0 [] [] := fun ak ad l => ⟨by rw [List.append_nil, List.append_nil], rfl, fun h => by rw [List.append_nil]; exact h, fun e he => (List.not_mem_nil he).elim, by rw [cntL]; show 0 + 0 + big l ≤ _; omega⟩
 induction N with
 | zero =>
  refine ⟨fun x l h => absurd h (by omega), fun n ad l h d k hk => ?_, fun n ak ad l h d k hk => ?_⟩
  ·cases l with
   | nil =>
    rw [seq_nil] at hk
    injection hk with h1 h2
    subst h1; subst h2
    exact ⟨[], seq0 ad [], fun x t e => by cases e⟩
   | cons x l => simp only [big] at h; omega
  ·cases l with
   | nil =>
    rw [map_nil] at hk
    injection hk with h1 h2
    subst h1; subst h2
    exact ⟨[], [], map0 ak ad [], fun x t p e => by cases e⟩
   | cons x l => simp only [big] at h; omega
 | succ N ih =>
  obtain ⟨ih1, ih2, ih3⟩ := ih
  refine ⟨fun x l h d k hk => ?_, fun n ad l h d k hk => ?_, fun n ak ad l h d k hk => ?_⟩
  ·cases hh : hyp x.text with
   | true =>
    rw [blk_seq hh] at hk
    obtain ⟨ds, ⟨rfl, h2, h3⟩, h4⟩ := ih2 x.ind [] (x :: l) (by omega) d k hk
    have h4 := h4 x l rfl rfl hh
    rw [List.nil_append]
    exact ⟨.mk (by decide) (by decide) (by simp [formB]) (fun h => by cases h) h2, by rw [cntT]; omega⟩
   | false =>
    cases he : entP x.text with
    | none => rw [blk_bad hh he] at hk; cases hk
    | some o =>
     cases o with
     | none =>
      rw [blk_val hh he] at hk
      have h1 := val_one hk
      subst h1
      have h2 := val_fine hk
      refine ⟨h2.1, ?_⟩
      show cntT d + big l ≤ 1 + x.text.length + big l
      omega
     | some p =>
      rw [blk_map hh he] at hk
      obtain ⟨ks, ds, ⟨rfl, h0, ho, h2, h3⟩, h4⟩ := ih3 x.ind [] [] (x :: l) (by omega) d k hk
      have h4 := h4 x l p rfl rfl he List.not_mem_nil
      have ho := ho once_nil
      rw [List.nil_append] at ho ⊢
      rw [List.nil_append]
      exact ⟨.mk (by decide) (by decide) (by simp [formB]) (fun _ => ⟨h0, sort_once ho⟩) h2, by rw [cntT]; omega⟩
  ·cases l with
   | nil =>
    rw [seq_nil] at hk
    injection hk with h1 h2
    subst h1; subst h2
    exact ⟨[], seq0 ad [], fun x t e => by cases e⟩
   | cons x l =>
    have hbig : big (x :: l) = 1 + x.text.length + big l := rfl
    rcases Nat.lt_trichotomy x.ind n with hlt | heq | hgt
    ·rw [seq_low hlt] at hk
     injection hk with h1 h2
     subst h1; subst h2
     exact ⟨[], seq0 ad _, fun y t e he => by injection e with e1 e2; subst e1; omega⟩
    ·cases hh : hyp x.text with
     | false =>
      rw [seq_other heq hh] at hk
      injection hk with h1 h2
      subst h1; subst h2
      exact ⟨[], seq0 ad _, fun y t e _ he => by injection e with e1 e2; subst e1; rw [hh] at he; cases he⟩
     | true =>
      rw [seq_kid heq hh] at hk
      have hkid : ∀ d2 k2, kidS n x l = .ok d2 k2 → KidOk x l d2 k2 := fun d2 k2 h2 => by
       unfold kidS at h2
       split at h2
       ·rename_i h1
        have hc := cut1_lt h1
        have h3 := ih1 (cut1 x) l (by simp only [big]; omega) d2 k2 h2
        have h4 := blk_took h2
        obtain ⟨j, rfl⟩ : ∃ j, k2 = j + 1 := ⟨k2 - 1, by omega⟩
        have h5 : cntT d2 + big (l.drop j) ≤ 1 + (cut1 x).text.length + big l := h3.2
        refine ⟨h4.1, h4.2, h3.1, ?_⟩
        rw [Nat.add_sub_cancel]
        omega
       ·split at h2
        ·cases l with
         | nil => rename_i hdp; cases hdp
         | cons z l => exact kid_more (fun d m => ih1 z l (by simp only [big] at h ⊢; omega) d m) h2
        ·injection h2 with h3 h4
         subst h3; subst h4
         exact kid_nul (hyp_len hh)
      cases hkr : kidS n x l with
      | bad no e => rw [hkr] at hk; cases hk
      | ok d2 k2 =>
       rw [hkr] at hk
       obtain ⟨m, hm1, hm2⟩ := more_ok hk
       obtain ⟨g1, g2, g3, g4⟩ := hkid d2 k2 hkr
       have hb := big_drop (k2 - 1) l
       obtain ⟨ds, ⟨e1, e2, e3⟩, -⟩ := ih2 n (ad ++ [d2]) (l.drop (k2 - 1)) (by omega) d m hm1
       refine ⟨d2 :: ds, ⟨by rw [e1, List.append_assoc]; rfl, fun e he => ?_, ?_⟩, fun _ _ _ _ _ => by simp⟩
       ·rcases List.mem_cons.1 he with rfl | he
        ·exact g3
        ·exact e2 e he
       ·subst hm2
        rw [cntL, List.length_cons, show k2 - 1 + 1 + m = (k2 - 1 + m) + 1 by omega, List.drop_succ_cons]
        rw [List.drop_drop] at e3
        omega
    ·rw [seq_high hgt] at hk; cases hk
  ·cases l with
   | nil =>
    rw [map_nil] at hk
    injection hk with h1 h2
    subst h1; subst h2
    exact ⟨[], [], map0 ak ad [], fun x t p e => by cases e⟩
   | cons x l =>
    have hbig : big (x :: l) = 1 + x.text.length + big l := rfl
    rcases Nat.lt_trichotomy x.ind n with hlt | heq | hgt
    ·rw [map_low hlt] at hk
     injection hk with h1 h2
     subst h1; subst h2
     exact ⟨[], [], map0 ak ad _, fun y t p e he => by injection e with e1 e2; subst e1; omega⟩
    ·cases he : entP x.text with
     | none => rw [map_bad heq he] at hk; cases hk
     | some o =>
      cases o with
      | none =>
       rw [map_other heq he] at hk
       injection hk with h1 h2
       subst h1; subst h2
       exact ⟨[], [], map0 ak ad _, fun y t p e _ h9 => by injection e with e1 e2; subst e1; rw [he] at h9; cases h9⟩
      | some p =>
       obtain ⟨y, r⟩ := p
       by_cases hy : y ∈ ak
       ·rw [map_twice heq he hy] at hk; cases hk
       ·rw [map_kid heq he hy] at hk
        have hel := ent_len he
        have hkid : ∀ d2 k2, kidM n x l r = .ok d2 k2 → KidOk x l d2 k2 := fun d2 k2 h2 => by
         unfold kidM at h2
         split at h2
         ·have h3 := val_one h2
          have h4 := val_fine h2
          subst h3
          refine ⟨Nat.le_refl _, by omega, h4.1, ?_⟩
          show cntT d2 + 1 + big l ≤ _
          omega
         ·split at h2
          ·cases l with
           | nil => rename_i hdp; cases hdp
           | cons z l => exact kid_more (fun d m => ih1 z l (by simp only [big] at h ⊢; omega) d m) h2
          ·injection h2 with h3 h4
           subst h3; subst h4
           exact kid_nul (by omega)
        cases hkr : kidM n x l r with
        | bad no e => rw [hkr] at hk; cases hk
        | ok d2 k2 =>
         rw [hkr] at hk
         obtain ⟨m, hm1, hm2⟩ := more_ok hk
         obtain ⟨g1, g2, g3, g4⟩ := hkid d2 k2 hkr
         have hb := big_drop (k2 - 1) l
         obtain ⟨ks, ds, ⟨e1, e0, eo, e2, e3⟩, -⟩ := ih3 n (ak ++ [y]) (ad ++ [d2]) (l.drop (k2 - 1)) (by omega) d m hm1
         refine ⟨y :: ks, d2 :: ds, ⟨by rw [e1, List.append_assoc, List.append_assoc]; rfl, by rw [List.length_cons, List.length_cons, e0], fun h => ?_, fun e he => ?_, ?_⟩, fun _ _ _ _ _ _ _ => by simp⟩
         ·have := eo (once_snoc h hy)
          rw [List.append_assoc] at this
          exact this
         ·rcases List.mem_cons.1 he with rfl | he
          ·exact g3
          ·exact e2 e he
         ·subst hm2
          rw [cntL, List.length_cons, show k2 - 1 + 1 + m = (k2 - 1 + m) + 1 by omega, List.drop_succ_cons]
          rw [List.drop_drop] at e3
          omega
    ·rw [map_high hgt] at hk; cases hk
theorem blk_fine {x : Ln} {l : List Ln} {d : Nd} {k : Nat} (h : blkB (x :: l) = .ok d k) : Fine d ∧ cntT d ≤ big (x :: l) := by
 have := (blk_count _).1 x l (Nat.le_refl _) d k h
 exact ⟨this.1, by omega⟩
end B10
end Go.Proofs.YtecglpocmhkkiaaGreatDoor
namespace Go.Proofs.YtecglpocmhkkiaaGreatDoor
open Go.RowKit Go.Sort
open Nw N8 Q6 F9 B10
namespace B10
def entN (K : Option (Option (L8 × L8))) : Int := match K with | none => -1 | some none => 0 | some (some _) => 1
def entY (K : Option (Option (L8 × L8))) : L8 := match K with | some (some p) => p.1 | _ => []
def entR (K : Option (Option (L8 × L8))) : L8 := match K with | some (some p) => p.2 | _ => []
theorem ent_zero {l : L8} (h : (decide (l = []) || hyp l || decide (l.headD 0 = 91) || decide (l.headD 0 = 123)) = true) : entP l = some none := by
 unfold entP; exact if_pos h
theorem ent_quote {l : L8} (h : (decide (l = []) || hyp l || decide (l.headD 0 = 91) || decide (l.headD 0 = 123)) = false) (hq : isQ (l.headD 0) = true) : entP l = match scnP l with | none => some none | some p => if mrk l p.2 then some (some (p.1, bhd l p.2)) else some none := by
 unfold entP
 rw [if_neg (by rw [h]; decide), if_pos hq]
 cases scnP l <;> rfl
theorem ent_plain {l : L8} (h : (decide (l = []) || hyp l || decide (l.headD 0 = 91) || decide (l.headD 0 = 123)) = false) (hq : isQ (l.headD 0) = false) : entP l = match fstM l 0 with | none => some none | some k => if plainB (l.take k) && !decide (l.take k = [60, 60]) then some (some (l.take k, bhd l k)) else none := by
 unfold entP
 rw [if_neg (by rw [h]; decide), if_neg (by rw [hq]; decide)]
 cases fstM l 0 <;> rfl
theorem fst_go {l : L8} {k : Nat} (h : k < l.length) (hm : mrk l k = false) : fstM l k = fstM l (k + 1) := by rw [fstM, dif_pos h, hm, if_neg Bool.false_ne_true]
theorem fst_at {l : L8} {k : Nat} (h : k < l.length) (hm : mrk l k = true) : fstM l k = some k := by rw [fstM, dif_pos h, if_pos hm]
theorem fst_end {l : L8} {k : Nat} (h : l.length ≤ k) : fstM l k = none := by rw [fstM, dif_neg (by omega)]
end B10
theorem drew_below9 (w : World) (n : Nat) : Below w.heap.size w (w.drewN n) := ⟨rfl, rfl, rfl, Nat.le_refl _, fun _ _ => rfl⟩
theorem ret_ssi {a b c d : ByteArray} {x y : Int} (h1 : a.data.toList = c.data.toList) (h2 : b.data.toList = d.data.toList) (h3 : x = y) : Ending.returned (.tuple #[.string a, .string b, .int .i64 x]) = .returned (.tuple #[.string c, .string d, .int .i64 y]) := by
 have e1 : a = c := by rw [← ba_of a, ← ba_of c, h1]
 have e2 : b = d := by rw [← ba_of b, ← ba_of d, h2]
 rw [e1, e2, h3]
theorem REnt_any (s : ByteArray) (w : World) (n : Nat) (hn : s.size = n) (hs : n ≤ 100000) (K : Option (Option (L8 × L8))) (hK : entP s.data.toList = K) (y r : ByteArray) (hy : entY K = y.data.toList) (hr : entR K = r.data.toList) (x : Int) (hx : entN K = x) :
  Calls Tryz.prog 11 #[.string s] w fun e w' => e = .returned (.tuple #[.string y, .string r, .int .i64 x]) ∧ Below w.heap.size w w' := by
 have hlen : s.data.toList.length = n := (len_eq s).trans hn
 have HO : Hid (∀ K', entP s.data.toList = K' → entY K' = y.data.toList ∧ entR K' = r.data.toList ∧ entN K' = x) := hid fun K' h => by rw [← h, hK]; exact ⟨hy, hr, hx⟩
 have H0 : Hid (entP s.data.toList = some none → (⟨#[]⟩ : ByteArray).data.toList = y.data.toList ∧ (⟨#[]⟩ : ByteArray).data.toList = r.data.toList ∧ (0 : Int) = x) := hid fun h => HO.out _ h
 have HN : Hid (entP s.data.toList = none → (⟨#[]⟩ : ByteArray).data.toList = y.data.toList ∧ (⟨#[]⟩ : ByteArray).data.toList = r.data.toList ∧ (-1 : Int) = x) := hid fun h => HO.out _ h
 clear hK hy hr hx
 by_cases h0 : n = 0
 ·have e0 : s.data.toList = [] := List.length_eq_zero_iff.1 (hlen.trans h0)
  have HE := hid (H0.out (ent_zero (by rw [e0]; rfl)))
  obtain rfl := bytes_of (l := #[]) e0
  clear hlen e0 h0 hn hs HO H0 HN
  go_enter Tryz.func11, Tryz.ntmps11
  go_wp2
  go_ret3
  exact ⟨ret_ssi HE.out.1 HE.out.2.1 HE.out.2.2, Below.refl _ _⟩
 have hp : 0 < s.size := by omega
 have hpz : (0 : Int) < (n : Int) := by omega
 have hpe : ((n : Int) == 0) = false := beq_eq_false_iff_ne.2 (by omega)
 have hne : s.data.toList ≠ [] := by
  intro e
  rw [e] at hlen
  exact h0 hlen.symm
 obtain ⟨c, hc⟩ : ∃ c, s[0]'hp = c := ⟨_, rfl⟩
 have hhead : s.data.toList.headD 0 = c := by rw [headD_getD, getd s 0 hp, hc]
 cases hh : hyp s.data.toList with
 | true =>
  have HHY := hid (fun W => RHyp_any s true W (by omega) hh)
  have HE := hid (H0.out (ent_zero (by rw [hh, Bool.or_true]; rfl)))
  clear hlen hne hhead hh HO H0 HN
  go_enter Tryz.func11, Tryz.ntmps11
  go_wp2_with fail
  refine (HHY.out _).mono ?_
  rintro e w' ⟨rfl, rfl⟩
  go_wp2
  go_ret3
  exact ⟨ret_ssi HE.out.1 HE.out.2.1 HE.out.2.2, Below.refl _ _⟩
 | false =>
 have HHY := hid (fun W => RHyp_any s false W (by omega) hh)
 cases h91 : isC 91 c with
 | true =>
  have m91 := (isC_beq 91 c 91 rfl).trans h91
  have HE := hid (H0.out (ent_zero (by rw [hhead, show decide (c = 91) = true from h91, Bool.or_true]; rfl)))
  clear hlen hne hhead hh h91 HO H0 HN
  go_enter Tryz.func11, Tryz.ntmps11
  go_wp2_with fail
  refine (HHY.out _).mono ?_
  rintro e w' ⟨rfl, rfl⟩
  go_wp2
  go_ret3
  exact ⟨ret_ssi HE.out.1 HE.out.2.1 HE.out.2.2, Below.refl _ _⟩
 | false =>
 have m91 := (isC_beq 91 c 91 rfl).trans h91
 cases h123 : isC 123 c with
 | true =>
  have m123 := (isC_beq 123 c 123 rfl).trans h123
  have HE := hid (H0.out (ent_zero (by rw [hhead, show decide (c = 123) = true from h123, Bool.or_true])))
  clear hlen hne hhead hh h91 h123 HO H0 HN
  go_enter Tryz.func11, Tryz.ntmps11
  go_wp2_with fail
  refine (HHY.out _).mono ?_
  rintro e w' ⟨rfl, rfl⟩
  go_wp2
  go_ret3
  exact ⟨ret_ssi HE.out.1 HE.out.2.1 HE.out.2.2, Below.refl _ _⟩
 | false =>
 have m123 := (isC_beq 123 c 123 rfl).trans h123
 have hcond : (decide (s.data.toList = []) || hyp s.data.toList || decide (s.data.toList.headD 0 = 91) || decide (s.data.toList.headD 0 = 123)) = false := by
  rw [decide_eq_false hne, hh, hhead, show decide (c = 91) = false from h91, show decide (c = 123) = false from h123]; rfl
 cases hQ : isQ c with
 | true =>
  have hEP := ent_quote hcond (by rw [hhead]; exact hQ)
  obtain ⟨v1, v2, v3⟩ := (scan_zero hne).1 (by rw [hhead]; exact hQ)
  have HIQ : Hid (isC 34 c = true ∨ (isC 34 c = false ∧ isC 39 c = true)) := hid (by
   unfold isQ at hQ
   cases h : isC 34 c with
   | true => exact .inl rfl
   | false =>
    rw [show decide (c = 34) = false from h] at hQ
    exact .inr ⟨rfl, hQ⟩)
  cases hsc : scnP s.data.toList with
  | none =>
   rw [hsc] at hEP v1 v2 v3
   have HE := hid (H0.out hEP)
   have HSC := hid (fun W => RScan_any s 0 W (by omega) (by omega) (by omega) ⟨#[]⟩ 0 3 (by rw [v1]; rfl) (by rw [v2]; rfl) (by rw [v3]; rfl))
   clear hlen hne hhead hh h91 h123 hcond hQ hEP v1 v2 v3 hsc HO H0 HN
   rcases HIQ.out with a1 | ⟨a1, a2⟩
   ·have m34 := (isC_beq 34 c 34 rfl).trans a1
    clear a1
    go_enter Tryz.func11, Tryz.ntmps11
    go_wp2_with fail
    refine (HHY.out _).mono ?_
    rintro e w' ⟨rfl, rfl⟩
    go_wp2_with fail
    refine (HSC.out _).mono ?_
    rintro e w1 ⟨rfl, hb⟩
    go_wp2
    go_ret3
    exact ⟨ret_ssi HE.out.1 HE.out.2.1 HE.out.2.2, hb⟩
   ·have m34 := (isC_beq 34 c 34 rfl).trans a1
    have m39 := (isC_beq 39 c 39 rfl).trans a2
    clear a1 a2
    go_enter Tryz.func11, Tryz.ntmps11
    go_wp2_with fail
    refine (HHY.out _).mono ?_
    rintro e w' ⟨rfl, rfl⟩
    go_wp2_with fail
    refine (HSC.out _).mono ?_
    rintro e w1 ⟨rfl, hb⟩
    go_wp2
    go_ret3
    exact ⟨ret_ssi HE.out.1 HE.out.2.1 HE.out.2.2, hb⟩
  | some p =>
   obtain ⟨t, m⟩ := p
   have hmf := scn_facts hsc hne
   rw [hsc] at hEP v1 v2 v3
   rw [hlen] at hmf
   have hmn : m ≤ n := hmf.2
   have hEP : entP s.data.toList = if mrk s.data.toList m then some (some (t, bhd s.data.toList m)) else some none := hEP
   obtain ⟨Q, hQQ⟩ : ∃ Q, ba t = Q := ⟨_, rfl⟩
   have hQl : Q.data.toList = t := by rw [← hQQ, ba_data]
   have HSC := hid (fun W => RScan_any s 0 W (by omega) (by omega) (by omega) Q (m : Int) 0 (by rw [v1, hQl]; rfl) (by rw [v2]; rfl) (by rw [v3]; rfl))
   cases hm : mrk s.data.toList m with
   | true =>
    have hml := mrk_lt hm
    rw [hlen] at hml
    have HMK := hid (fun W => RMrk_any s m true W n hn (by omega) hmn hm)
    rw [hm, if_pos rfl] at hEP
    obtain ⟨o1, o2, o3⟩ := HO.out _ hEP
    have HBH := hid (fun W => RBhd_any s m W n hn (by omega) hml r o2)
    have HE : Hid (Q.data.toList = y.data.toList ∧ (1 : Int) = x) := hid ⟨hQl.trans o1, o3⟩
    clear hlen hne hhead hh h91 h123 hcond hQ hEP v1 v2 v3 hsc HO H0 HN hmf hQQ hQl hm o1 o2 o3
    rcases HIQ.out with a1 | ⟨a1, a2⟩
    ·have m34 := (isC_beq 34 c 34 rfl).trans a1
     clear a1
     go_enter Tryz.func11, Tryz.ntmps11
     go_wp2_with fail
     refine (HHY.out _).mono ?_
     rintro e w' ⟨rfl, rfl⟩
     go_wp2_with fail
     refine (HSC.out _).mono ?_
     rintro e w1 ⟨rfl, hb⟩
     go_wp2_with fail
     refine (HMK.out _).mono ?_
     rintro e w' ⟨rfl, rfl⟩
     go_wp2_with fail
     refine (HBH.out _).mono ?_
     rintro e w' ⟨rfl, rfl⟩
     go_wp2
     go_ret3
     exact ⟨ret_ssi HE.out.1 rfl HE.out.2, hb⟩
    ·have m34 := (isC_beq 34 c 34 rfl).trans a1
     have m39 := (isC_beq 39 c 39 rfl).trans a2
     clear a1 a2
     go_enter Tryz.func11, Tryz.ntmps11
     go_wp2_with fail
     refine (HHY.out _).mono ?_
     rintro e w' ⟨rfl, rfl⟩
     go_wp2_with fail
     refine (HSC.out _).mono ?_
     rintro e w1 ⟨rfl, hb⟩
     go_wp2_with fail
     refine (HMK.out _).mono ?_
     rintro e w' ⟨rfl, rfl⟩
     go_wp2_with fail
     refine (HBH.out _).mono ?_
     rintro e w' ⟨rfl, rfl⟩
     go_wp2
     go_ret3
     exact ⟨ret_ssi HE.out.1 rfl HE.out.2, hb⟩
   | false =>
    have HMK := hid (fun W => RMrk_any s m false W n hn (by omega) hmn hm)
    rw [hm, if_neg Bool.false_ne_true] at hEP
    have HE := hid (H0.out hEP)
    clear hlen hne hhead hh h91 h123 hcond hQ hEP v1 v2 v3 hsc HO H0 HN hmf hQQ hQl hm
    rcases HIQ.out with a1 | ⟨a1, a2⟩
    ·have m34 := (isC_beq 34 c 34 rfl).trans a1
     clear a1
     go_enter Tryz.func11, Tryz.ntmps11
     go_wp2_with fail
     refine (HHY.out _).mono ?_
     rintro e w' ⟨rfl, rfl⟩
     go_wp2_with fail
     refine (HSC.out _).mono ?_
     rintro e w1 ⟨rfl, hb⟩
     go_wp2_with fail
     refine (HMK.out _).mono ?_
     rintro e w' ⟨rfl, rfl⟩
     go_wp2
     go_ret3
     exact ⟨ret_ssi HE.out.1 HE.out.2.1 HE.out.2.2, hb⟩
    ·have m34 := (isC_beq 34 c 34 rfl).trans a1
     have m39 := (isC_beq 39 c 39 rfl).trans a2
     clear a1 a2
     go_enter Tryz.func11, Tryz.ntmps11
     go_wp2_with fail
     refine (HHY.out _).mono ?_
     rintro e w' ⟨rfl, rfl⟩
     go_wp2_with fail
     refine (HSC.out _).mono ?_
     rintro e w1 ⟨rfl, hb⟩
     go_wp2_with fail
     refine (HMK.out _).mono ?_
     rintro e w' ⟨rfl, rfl⟩
     go_wp2
     go_ret3
     exact ⟨ret_ssi HE.out.1 HE.out.2.1 HE.out.2.2, hb⟩
 | false =>
  have hEP := ent_plain hcond (by rw [hhead]; exact hQ)
  have h34 : isC 34 c = false ∧ isC 39 c = false := by
   unfold isQ at hQ
   rw [Bool.or_eq_false_iff] at hQ
   exact hQ
  have m34 := (isC_beq 34 c 34 rfl).trans h34.1
  have m39 := (isC_beq 39 c 39 rfl).trans h34.2
  have HEP := hid hEP
  have HLEN := hid hlen
  clear hne hhead hh h91 h123 hcond hQ hEP h34 hlen
  go_enter Tryz.func11, Tryz.ntmps11
  go_wp2_with fail
  refine (HHY.out _).mono ?_
  rintro e w' ⟨rfl, rfl⟩
  go_wp2
  go_loop [8] (fun si => ∃ j : Nat, j ≤ n ∧ si = .int .i64 (j : Int) ∧ Hid (fstM s.data.toList j = fstM s.data.toList 0)) (fun si => n - (intOf si).toNat)
  case atStart => exact ⟨0, Nat.zero_le _, rfl, hid rfl⟩
  case round =>
   obtain ⟨j, hj, rfl, HF⟩ := hrel
   by_cases hlt : j < n
   ·have hjz : (j : Int) < (n : Int) := by omega
    cases hm : mrk s.data.toList j with
    | false =>
     have HMK := hid (fun W => RMrk_any s j false W n hn (by omega) hj hm)
     have HF2 : Hid (fstM s.data.toList (j + 1) = fstM s.data.toList 0) := hid ((fst_go (by rw [HLEN.out]; exact hlt) hm).symm.trans HF.out)
     clear hm
     go_wp2_with fail
     refine (HMK.out _).mono ?_
     rintro e w' ⟨rfl, rfl⟩
     go_wp2
     go_round
     case rel => exact ⟨j + 1, by omega, by go_num, HF2⟩
     case measure => simp [intOf]; omega
    | true =>
     have HMK := hid (fun W => RMrk_any s j true W n hn (by omega) hj hm)
     have hEP := HEP.out
     rw [← HF.out, fst_at (by rw [HLEN.out]; exact hlt) hm] at hEP
     have hEP : entP s.data.toList = if plainB (s.data.toList.take j) && !decide (s.data.toList.take j = [60, 60]) then some (some (s.data.toList.take j, bhd s.data.toList j)) else none := hEP
     obtain ⟨t, ht⟩ : ∃ t, s.extract 0 j = t := ⟨_, rfl⟩
     have htl : t.data.toList = s.data.toList.take j := by rw [← ht, Lib.extract_data, List.drop_zero, Nat.sub_zero]
     have hts : t.size ≤ 1000000 := by rw [← len_eq, htl, List.length_take, HLEN.out]; omega
     have le2 : (j : Int) ≤ (n : Int) := by omega
     rw [← htl] at hEP
     cases hpl : plainB t.data.toList with
     | false =>
      have HPL := hid (fun W => RPlain_q t false W hts hpl)
      rw [hpl, Bool.false_and, if_neg Bool.false_ne_true] at hEP
      have HE := hid (HN.out hEP)
      clear hm hEP htl hts hpl
      go_wp2_with fail
      refine (HMK.out _).mono ?_
      rintro e w' ⟨rfl, rfl⟩
      go_wp2_with fail
      refine (HPL.out _).mono ?_
      rintro e w' ⟨rfl, rfl⟩
      go_wp2
      go_ret3
      exact ⟨ret_ssi HE.out.1 HE.out.2.1 HE.out.2.2, Below.refl _ _⟩
     | true =>
      have HPL := hid (fun W => RPlain_q t true W hts hpl)
      rw [hpl, Bool.true_and] at hEP
      by_cases h6 : t.data.toList = [60, 60]
      ·have b2 : (t.toList == [60, 60]) = true := by rw [ByteArray.toList_eq]; exact beq_iff_eq.2 h6
       rw [decide_eq_true h6] at hEP
       have HE := hid (HN.out hEP)
       clear hm hEP htl hts hpl h6
       go_wp2_with fail
       refine (HMK.out _).mono ?_
       rintro e w' ⟨rfl, rfl⟩
       go_wp2_with fail
       refine (HPL.out _).mono ?_
       rintro e w' ⟨rfl, rfl⟩
       go_wp2
       go_ret3
       exact ⟨ret_ssi HE.out.1 HE.out.2.1 HE.out.2.2, Below.refl _ _⟩
      ·have b2 : (t.toList == [60, 60]) = false := by rw [ByteArray.toList_eq]; exact beq_eq_false_iff_ne.2 h6
       rw [decide_eq_false h6] at hEP
       have hEP : entP s.data.toList = some (some (t.data.toList, bhd s.data.toList j)) := hEP
       obtain ⟨o1, o2, o3⟩ := HO.out _ hEP
       have HBH := hid (fun W => RBhd_any s j W n hn (by omega) hlt r o2)
       have HE : Hid (t.data.toList = y.data.toList ∧ (1 : Int) = x) := hid ⟨o1, o3⟩
       clear hm hEP htl hts hpl h6 o1 o2 o3
       go_wp2_with fail
       refine (HMK.out _).mono ?_
       rintro e w' ⟨rfl, rfl⟩
       go_wp2_with fail
       refine (HPL.out _).mono ?_
       rintro e w' ⟨rfl, rfl⟩
       go_wp2
       go_quiet (first | (go_at_call 29; exact (HBH.out _).mono fun e w' h => by obtain ⟨rfl, rfl⟩ := h; exact ⟨rfl, _, rfl⟩) | (go_at_call 29; exact (HBH.out _).mono fun e w' h => by obtain ⟨rfl, rfl⟩ := h; exact ⟨rfl, rfl⟩))
       go_wp2
       go_ret3
       exact ⟨ret_ssi HE.out.1 rfl HE.out.2, drew_below9 _ _⟩
   ·obtain rfl : j = n := by omega
    have hEP := HEP.out
    rw [← HF.out, fst_end (by rw [HLEN.out]; exact Nat.le_refl _)] at hEP
    have HE := hid (H0.out hEP)
    clear hEP
    go_wp2
    go_ret3
    exact ⟨ret_ssi HE.out.1 HE.out.2.1 HE.out.2.2, Below.refl _ _⟩
end Go.Proofs.YtecglpocmhkkiaaGreatDoor
