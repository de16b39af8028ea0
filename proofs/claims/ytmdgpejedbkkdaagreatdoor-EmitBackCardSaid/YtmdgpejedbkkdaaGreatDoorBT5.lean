/- FloAll, FloPar, LinMath, BloMath -/
import Derived.Test.YtmdgpejedbkkdaaGreatDoorBT1
import Derived.Test.YtmdgpejedbkkdaaGreatDoorBT4
set_option linter.unusedVariables false
set_option linter.unusedSimpArgs false
set_option maxRecDepth 100000
set_option maxHeartbeats 16000000
namespace Go.Proofs.YtmdgpejedbkkdaaGreatDoor
namespace F9
open Nw N8 Q6
theorem back_any : ∀ (N : Nat) (d : Nd), cntT d ≤ N → Fine d → ∀ r, okR r → Back d (wrT d) r
 | 0, d, h, _, _, _ => by have := cntT_pos d; omega
 | N + 1, .mk k t ks ds, h, hf, r, hr => by
  rw [cntT] at h
  obtain ⟨⟨h0, h3⟩, ht, hks, hds, hd⟩ := fine_in hf
  have ih : ∀ e ∈ ds, ∀ r, okR r → Back e (wrT e) r := fun e he r hr => by
   have := cntL_mem he
   exact back_any N e (by omega) (hd e he) r hr
  rw [wrT]
  by_cases k0 : k = 0
  ·subst k0
   rw [if_pos rfl, ht (by decide), hks (by decide), hds (by decide)]
   exact back_null r hr
  rw [if_neg k0]
  by_cases k1 : k = 1
  ·subst k1
   rw [if_pos rfl, hks (by decide), hds (by decide)]
   exact back_txt t r hr
  rw [if_neg k1]
  have ht0 := ht k1
  subst ht0
  by_cases k3 : k = 3
  ·subst k3
   rw [if_pos rfl]
   have hl : ks.length = ds.length := by
    cases hf with
    | mk _ _ _ hk _ => exact (hk rfl).1
   have ho : Once ks := fine_once hf rfl
   match ks, ds, hl with
   | [], [], _ =>
    refine back_end ?_ (fun e => by cases e)
    have : wrM [] [] = [] := by rw [wrM]; intros; contradiction
    rw [this]
    show valP (123 :: 125 :: r) = _
    rw [valP, if_neg (by decide), if_pos rfl, blk_no (by decide), if_pos (show (List.drop 0 (125 :: r)).headD 0 = 125 from rfl)]; rfl
   | k :: ks, d :: ds, hl =>
    refine back_end ?_ (fun e => by cases e)
    have e1 : (123 :: wrM (k :: ks) (d :: ds) ++ [125]) ++ r = 123 :: (wtx k ++ 58 :: 32 :: (wrT d ++ (wrMt ks ds ++ 125 :: r))) := by rw [wrM]; simp
    rw [e1]
    obtain ⟨c, w, hw, hc, -, -, -, h125, -⟩ := wtx_first k
    have hb0 : blk (wtx k ++ 58 :: 32 :: (wrT d ++ (wrMt ks ds ++ 125 :: r))) = 0 := by rw [hw, List.cons_append, blk_no hc]
    have hp := prs_back ks ds k d [] [] (wtx k ++ 58 :: 32 :: (wrT d ++ (wrMt ks ds ++ 125 :: r))) r (Nat.succ.inj hl) ho ih (by rw [hb0]; rfl)
    rw [valP, if_neg (by decide), if_pos rfl, hb0, List.drop_zero, hp]
    have hh : (wtx k ++ 58 :: 32 :: (wrT d ++ (wrMt ks ds ++ 125 :: r))).headD 0 = c := by rw [hw]; rfl
    rw [hh, if_neg h125, hb0]
    simp only [Option.map_some, bump, List.nil_append]
    rw [wrM]
    simp only [List.length_append, List.length_cons, List.length_nil]
    congr 2
    omega
  ·rw [if_neg k3]
   obtain rfl : k = 2 := by omega
   have hks0 := hks (by decide)
   subst hks0
   match ds with
   | [] =>
    refine back_end ?_ (fun e => by cases e)
    rw [wrS]
    show valP (91 :: 93 :: r) = _
    rw [valP, if_pos rfl, blk_no (by decide), if_pos (show (List.drop 0 (93 :: r)).headD 0 = 93 from rfl)]; rfl
   | d :: ds =>
    refine back_end ?_ (fun e => by cases e)
    have e1 : (91 :: wrS (d :: ds) ++ [93]) ++ r = 91 :: (wrT d ++ (wrSt ds ++ 93 :: r)) := by rw [wrS]; simp
    rw [e1]
    obtain ⟨c, w, hw, hc, h93, -⟩ := wrT_first d
    have hb0 : blk (wrT d ++ (wrSt ds ++ 93 :: r)) = 0 := by rw [hw, List.cons_append, blk_no hc]
    have hp := row_back ds d [] (wrT d ++ (wrSt ds ++ 93 :: r)) r ih (by rw [hb0]; rfl)
    rw [valP, if_pos rfl, hb0, List.drop_zero, hp]
    have hh : (wrT d ++ (wrSt ds ++ 93 :: r)).headD 0 = c := by rw [hw]; rfl
    rw [hh, if_neg h93, hb0]
    simp only [Option.map_some, bump, List.nil_append]
    rw [wrS]
    simp only [List.length_append, List.length_cons, List.length_nil]
    congr 2
    omega
def spc (n : Nat) : L8 := List.replicate n 32
theorem blk_spc (n : Nat) (l : L8) : blk (spc n ++ l) = n + blk l := by
 induction n with
 | zero => show blk l = 0 + blk l; omega
 | succ n ih =>
  show blk (32 :: (spc n ++ l)) = _
  rw [blk_cons, if_pos rfl, ih]; omega
theorem blk_spc_all (n : Nat) : blk (spc n) = n := by
 have := blk_spc n []
 rw [List.append_nil] at this
 rw [this]; rfl
theorem parP_back {d : Nd} (hf : Fine d) (a b : Nat) : parP (spc a ++ (wrT d ++ spc b)) = some d := by
 have hr : okR (spc b) := by
  unfold okR
  rw [blk_spc_all]
  exact .inl (List.drop_of_length_le (by unfold spc; rw [List.length_replicate]; exact Nat.le_refl _))
 obtain ⟨m, h1, -, h3, h4⟩ := back_any (cntT d) d (Nat.le_refl _) hf (spc b) hr
 obtain ⟨c, w, hw, hc, -, -⟩ := wrT_first d
 have hb : blk (spc a ++ (wrT d ++ spc b)) = a := by rw [blk_spc, hw, List.cons_append, blk_no hc, Nat.add_zero]
 have hl : (spc a ++ (wrT d ++ spc b)).drop a = wrT d ++ spc b := by
  have : (spc a).length = a := by unfold spc; rw [List.length_replicate]
  conv => lhs; arg 1; rw [← this]
  exact List.drop_left
 unfold parP
 rw [hb, hl, h1]
 show (if ((spc a ++ (wrT d ++ spc b)).drop (a + m)).length = blk ((spc a ++ (wrT d ++ spc b)).drop (a + m)) then some d else none) = _
 have e : (spc a ++ (wrT d ++ spc b)).drop (a + m) = (wrT d ++ spc b).drop m := by rw [← List.drop_drop, hl]
 rw [e, if_pos]
 rw [blk_spc_all] at h3 h4
 rw [List.length_drop, List.length_append, show (spc b).length = b by unfold spc; rw [List.length_replicate]]
 omega
mutual
theorem left_yes : ∀ (d : Nd) (deep left : Int), Fine d → 1 ≤ deep → deep - 1 + (depT d : Int) ≤ 12 → (cntT d : Int) ≤ left → leftT d deep left = left - (cntT d : Int)
 | .mk k t ks ds, deep, left, hf, h1, hd, hc => by
  have hpos := cntT_pos (.mk k t ks ds)
  rw [cntT] at hc hpos
  rw [depT] at hd
  have hlen := cntL_len ds
  have hk : formB k t ks ds.length = true ∧ (0 ≤ k ∧ k ≤ 3) ∧ (k = 3 → ks.length = ds.length ∧ (sortL ks).length = ks.length) ∧ ∀ d ∈ ds, Fine d := by
   cases hf with
   | mk h0 h3 hf hk hd => exact ⟨hf, ⟨h0, h3⟩, hk, hd⟩
  obtain ⟨f1, f2, f3, f4⟩ := hk
  rw [leftT, if_neg (by omega), f1, if_neg (by decide)]
  have hkb : keysB k ks ds.length (left - 1) = true := by
   unfold keysB
   by_cases k3 : k = 3
   ·obtain ⟨g1, g2⟩ := f3 k3
    rw [decide_eq_true k3, decide_eq_false (by omega : ¬ ks.length ≠ ds.length), decide_eq_false (by omega : ¬ left - 1 < (ds.length : Int)), decide_eq_false (by omega : ¬ (sortL ks).length ≠ ks.length)]; rfl
   ·rw [decide_eq_false k3]; rfl
  rw [hkb, if_neg (by decide), leftL_yes ds (deep + 1) (left - 1) f4 (by omega) (by omega) (by omega), cntT]
  omega
theorem leftL_yes : ∀ (ds : List Nd) (deep left : Int), (∀ d ∈ ds, Fine d) → 1 ≤ deep → deep - 1 + (depL ds : Int) ≤ 12 → (cntL ds : Int) ≤ left → leftL ds deep left = left - (cntL ds : Int)
 | [], deep, left, _, _, _, _ => by rw [leftL, cntL]; omega
 | d :: ds, deep, left, hf, h1, hd, hc => by
  rw [cntL] at hc
  rw [depL] at hd
  have h2 := left_yes d deep left (hf d (List.mem_cons_self ..)) h1 (by omega) (by omega)
  rw [leftL, h2, if_neg (by omega), leftL_yes ds deep _ (fun e he => hf e (List.mem_cons_of_mem _ he)) h1 (by omega) (by omega), cntL]
  omega
end
mutual
theorem left_dep : ∀ (d : Nd) (deep left : Int), 0 ≤ leftT d deep left → deep - 1 + (depT d : Int) ≤ 12
 | .mk k t ks ds, deep, left, h => by
  rw [leftT] at h
  split at h
  ·exact absurd h (by decide)
  ·rename_i h1
   split at h
   ·exact absurd h (by decide)
   ·split at h
    ·exact absurd h (by decide)
    ·rw [depT]
     rcases leftL_dep ds (deep + 1) (left - 1) h with h2 | h2
     ·omega
     ·rw [h2, depL]; omega
theorem leftL_dep : ∀ (ds : List Nd) (deep left : Int), 0 ≤ leftL ds deep left → deep - 1 + (depL ds : Int) ≤ 12 ∨ ds = []
 | [], _, _, _ => .inr rfl
 | d :: ds, deep, left, h => by
  rw [leftL] at h
  split at h
  ·exact absurd h (by decide)
  ·rename_i h1
   have h2 := left_dep d deep left (by omega)
   rw [depL]
   rcases leftL_dep ds deep _ h with h3 | h3
   ·left; omega
   ·subst h3; left; rw [depL]; omega
end
theorem ok_iff {most : Nat} {d : Nd} : okT (most : Int) d = true ↔ Fine d ∧ cntT d ≤ most ∧ depT d ≤ 12 := by
 constructor
 ·intro h
  have h1 := ok_cnt h
  have h2 := left_dep d 1 most (of_decide_eq_true h)
  exact ⟨ok_fine h, by omega, by omega⟩
 ·rintro ⟨h1, h2, h3⟩
  have := left_yes d 1 (most : Int) h1 (by omega) (by omega) (by omega)
  exact decide_eq_true (by rw [this]; omega)
end F9
end Go.Proofs.YtmdgpejedbkkdaaGreatDoor
namespace Go.Proofs.YtmdgpejedbkkdaaGreatDoor
namespace F9
open Nw N8 Q6
def sclS (row : Bool) (l : L8) : Option Nd :=
 if bad3 l then some nul
 else if isQ (l.headD 0) && decide ((scnP l).map (·.2) = some l.length) then (scnP l).map fun p => txt p.1
 else if (if row then rowB l else plainB l) then some (txt l) else none
def parE (P : Option Nd) : Int := match P with | none => 3 | some d => if okT 2000 d then 0 else 9
def parD (P : Option Nd) : Nd := match P with | none => nul | some d => if okT 2000 d then d else nul
theorem par_no {d : Nd} (h : okT 2000 d = false) : 9 = parE (some d) ∧ nul = parD (some d) :=
 ⟨(if_neg (show ¬ okT 2000 d = true by rw [h]; decide)).symm, (if_neg (show ¬ okT 2000 d = true by rw [h]; decide)).symm⟩
theorem par_yes {d : Nd} (h : okT 2000 d = true) : 0 = parE (some d) ∧ d = parD (some d) := ⟨(if_pos h).symm, (if_pos h).symm⟩
end F9
end Go.Proofs.YtmdgpejedbkkdaaGreatDoor
namespace Go.Proofs.YtmdgpejedbkkdaaGreatDoor
namespace Q6
theorem scD_in (n : Nat) : ∀ (l : List UInt8), l.length ≤ n → ∀ v m, scD l = some (v, m) → 1 ≤ m ∧ m ≤ l.length := by
 induction n with
 | zero =>
  intro l hl v m h
  cases l with
  | nil => rw [scD_nil] at h; cases h
  | cons c t => rw [List.length_cons] at hl; omega
 | succ n ih =>
  intro l hl v m h
  cases l with
  | nil => rw [scD_nil] at h; cases h
  | cons c t =>
   by_cases hc : c = 34
   ·subst hc
    rw [scD_end] at h
    cases h
    exact ⟨Nat.le_refl _, by rw [List.length_cons]; omega⟩
   ·obtain ⟨x, k⟩ : ∃ x, den (c :: t) = x := ⟨_, rfl⟩
    obtain ⟨y, j⟩ := x
    have hlen := den_len (c :: t)
    rw [k] at hlen
    by_cases hj : j = 0
    ·rw [scD_bad hc (by rw [k]; exact hj)] at h; cases h
    ·rw [scD_next hc k hj] at h
     cases hr : scD ((c :: t).drop j) with
     | none => rw [hr] at h; cases h
     | some p =>
      rw [hr] at h
      obtain ⟨p1, p2⟩ := p
      have hl2 : ((c :: t).drop j).length ≤ n := by rw [List.length_drop, List.length_cons]; rw [List.length_cons] at hl; omega
      have hi := ih _ hl2 _ _ hr
      rw [List.length_drop] at hi
      cases h
      have hlen' : j ≤ (c :: t).length := hlen
      exact ⟨by show 1 ≤ j + p2; omega, by show j + p2 ≤ _; omega⟩
theorem scS_in : ∀ (l : List UInt8) v m, scS l = some (v, m) → 1 ≤ m ∧ m ≤ l.length
 | [], v, m, h => by rw [scS] at h; cases h
 | [c], v, m, h => by
  rw [scS] at h
  split at h
  ·cases h; exact ⟨Nat.le_refl _, Nat.le_refl _⟩
  ·cases h
 | c :: d :: t, v, m, h => by
  rw [scS] at h
  split at h
  ·split at h
   ·split at h
    ·cases hr : scS t with
     | none => rw [hr] at h; cases h
     | some p =>
      obtain ⟨p1, p2⟩ := p
      rw [hr] at h
      have := scS_in t p1 p2 hr
      cases h
      exact ⟨by show 1 ≤ 2 + p2; omega, by show 2 + p2 ≤ t.length + 1 + 1; omega⟩
    ·cases h; exact ⟨Nat.le_refl _, by show 1 ≤ t.length + 1 + 1; omega⟩
   ·cases hr : scS (d :: t) with
    | none => rw [hr] at h; cases h
    | some p =>
     obtain ⟨p1, p2⟩ := p
     rw [hr] at h
     have := scS_in (d :: t) p1 p2 hr
     cases h
     have h2 : p2 ≤ t.length + 1 := this.2
     exact ⟨by show 1 ≤ 1 + p2; omega, by show 1 + p2 ≤ t.length + 1 + 1; omega⟩
  ·cases h
theorem scanE_cases (l : List UInt8) (k : Nat) : scanE l (k : Int) ≠ 0 ∨ ∃ (v : List UInt8) (m : Nat), scanE l (k : Int) = 0 ∧ scanV l (k : Int) = v ∧ scanN l (k : Int) = (m : Int) ∧ k < m ∧ m ≤ l.length := by
 by_cases hq : isQuote l (k : Int) = true
 ·have hk : k < l.length := by
   unfold isQuote at hq
   rw [Bool.and_eq_true, Bool.and_eq_true] at hq
   have := of_decide_eq_true hq.1.2
   omega
  have e1 : scanE l (k : Int) = outE (scanR l k) := by unfold scanE; rw [if_pos hq, Int.toNat_natCast]
  have e2 : scanV l (k : Int) = outV (scanR l k) := by unfold scanV; rw [if_pos hq, Int.toNat_natCast]
  have e3 : scanN l (k : Int) = outN (scanR l k) := by unfold scanN; rw [if_pos hq, Int.toNat_natCast]
  rw [e1, e2, e3]
  cases hr : scanR l k with
  | none => left; show (3 : Int) ≠ 0; decide
  | some p =>
   obtain ⟨v, m⟩ := p
   right
   refine ⟨v, m, rfl, rfl, rfl, ?_⟩
   unfold scanR at hr
   split at hr
   ·unfold atD at hr
    cases hs : scD (l.drop (k + 1)) with
    | none => rw [hs] at hr; cases hr
    | some p =>
     obtain ⟨p1, p2⟩ := p
     rw [hs] at hr
     have hi := scD_in _ _ (Nat.le_refl _) _ _ hs
     rw [List.length_drop] at hi
     cases hr
     exact ⟨by show k < k + 1 + p2; omega, by show k + 1 + p2 ≤ _; omega⟩
   ·unfold atS at hr
    cases hs : scS (l.drop (k + 1)) with
    | none => rw [hs] at hr; cases hr
    | some p =>
     obtain ⟨p1, p2⟩ := p
     rw [hs] at hr
     have hi := scS_in _ _ _ hs
     rw [List.length_drop] at hi
     cases hr
     exact ⟨by show k < k + 1 + p2; omega, by show k + 1 + p2 ≤ _; omega⟩
 ·left
  unfold scanE
  rw [if_neg hq]; decide
def prevB (l : List UInt8) (k : Nat) : UInt8 := if k = 0 then 32 else l.getD (k - 1) 0
def opens (b : UInt8) : Bool := decide (b = 32) || decide (b = 91) || decide (b = 123) || decide (b = 44)
def begK (l : List UInt8) (k : Nat) : Nat :=
 if l.getD k 0 = 35 ∧ prevB l k = 32 then 2 else if (l.getD k 0 = 34 ∨ l.getD k 0 = 39) ∧ opens (prevB l k) = true then 1 else 0
def endAt (l : List UInt8) (k : Nat) : Option Nat :=
 if h : k < l.length then
  if begK l k = 2 then some k
  else if begK l k = 1 then
   if scanE l (k : Int) = 0 then (if h2 : k < (scanN l (k : Int)).toNat then endAt l (scanN l (k : Int)).toNat else none) else none
  else if good (l.getD k 0) = true then endAt l (k + 1) else none
 else some l.length
 termination_by l.length - k
theorem endAt_out {l : List UInt8} {k : Nat} (h : l.length ≤ k) : endAt l k = some l.length := by rw [endAt, dif_neg (by omega)]
theorem endAt_mark {l : List UInt8} {k : Nat} (h : k < l.length) (hb : begK l k = 2) : endAt l k = some k := by rw [endAt, dif_pos h, if_pos hb]
theorem endAt_bad {l : List UInt8} {k : Nat} (h : k < l.length) (hb : begK l k = 1) (hs : scanE l (k : Int) ≠ 0) : endAt l k = none := by
 rw [endAt, dif_pos h, if_neg (by rw [hb]; decide), if_pos hb, if_neg hs]
theorem endAt_quote {l : List UInt8} {k m : Nat} (h : k < l.length) (hb : begK l k = 1) (hs : scanE l (k : Int) = 0) (hm : scanN l (k : Int) = (m : Int)) (hkm : k < m) : endAt l k = endAt l m := by
 rw [endAt, dif_pos h, if_neg (by rw [hb]; decide), if_pos hb, if_pos hs, hm, Int.toNat_natCast, dif_pos hkm]
theorem endAt_raw {l : List UInt8} {k : Nat} (h : k < l.length) (hb : begK l k = 0) (hg : good (l.getD k 0) = false) : endAt l k = none := by
 rw [endAt, dif_pos h, if_neg (by rw [hb]; decide), if_neg (by rw [hb]; decide), if_neg (by rw [hg]; decide)]
theorem endAt_next {l : List UInt8} {k : Nat} (h : k < l.length) (hb : begK l k = 0) (hg : good (l.getD k 0) = true) : endAt l k = endAt l (k + 1) := by
 rw [endAt, dif_pos h, if_neg (by rw [hb]; decide), if_neg (by rw [hb]; decide), if_pos hg]
theorem begK_cases (l : List UInt8) (k : Nat) : begK l k = 0 ∨ begK l k = 1 ∨ begK l k = 2 := by
 unfold begK
 split
 ·exact .inr (.inr rfl)
 ·split
  ·exact .inr (.inl rfl)
  ·exact .inl rfl
theorem endAt_le (n : Nat) : ∀ (l : List UInt8) (k e : Nat), l.length - k ≤ n → endAt l k = some e → e ≤ l.length := by
 induction n with
 | zero =>
  intro l k e hk h
  rw [endAt_out (by omega)] at h
  cases h; exact Nat.le_refl _
 | succ n ih =>
  intro l k e hk h
  by_cases hlt : k < l.length
  ·rcases begK_cases l k with hb | hb | hb
   ·rcases Bool.eq_false_or_eq_true (good (l.getD k 0)) with hg | hg
    ·rw [endAt_next hlt hb hg] at h
     exact ih l (k + 1) e (by omega) h
    ·rw [endAt_raw hlt hb hg] at h; cases h
   ·rcases scanE_cases l k with hs | ⟨v, m, hs, -, hm, hkm, hml⟩
    ·rw [endAt_bad hlt hb hs] at h; cases h
    ·rw [endAt_quote hlt hb hs hm hkm] at h
     exact ih l m e (by omega) h
   ·rw [endAt_mark hlt hb] at h
    cases h; omega
  ·rw [endAt_out (by omega)] at h
   cases h; exact Nat.le_refl _
def trimN : List UInt8 → Nat → Nat
 | l, 0 => 0
 | l, n + 1 => if l.getD n 0 = 32 then trimN l n else n + 1
theorem trimN_le (l : List UInt8) (n : Nat) : trimN l n ≤ n := by
 induction n with
 | zero => exact Nat.le_refl _
 | succ n ih =>
  unfold trimN
  split
  ·omega
  ·exact Nat.le_refl _
def sayL (l : List UInt8) : Option (List UInt8) := (endAt l 0).map fun e => l.take (trimN l e)
structure Ln where
 no : Nat
 ind : Nat
 text : List UInt8
def rowN (l : List UInt8) : Nat := (l.takeWhile fun c => decide (c ≠ 10)).length
def indN (l : List UInt8) : Nat := (l.takeWhile fun c => decide (c = 32)).length
def marker (t : List UInt8) : Bool := decide (t = [45, 45, 45]) || decide (t = [46, 46, 46])
def oneL (row : List UInt8) : Option (Nat × List UInt8) :=
 match sayL (row.drop (indN row)) with
 | none => none
 | some t => if indN row = 0 ∧ marker t = true then none else some (indN row, t)
def splitL (no : Nat) (acc : List Ln) (l : List UInt8) : List Ln × Nat × Int :=
 if h : l = [] then (acc, 0, 0)
 else
  match oneL (l.take (rowN l)) with
  | none => ([], no + 1, 3)
  | some (k, t) => splitL (no + 1) (if t = [] then acc else acc ++ [⟨no + 1, k, t⟩]) (l.drop (rowN l + 1))
 termination_by l.length
 decreasing_by
  rw [List.length_drop]
  have := List.length_pos_iff.2 h
  omega
theorem splitL_nil (no : Nat) (acc : List Ln) : splitL no acc [] = (acc, 0, 0) := by rw [splitL, dif_pos rfl]
theorem splitL_bad {no : Nat} {acc : List Ln} {l : List UInt8} (h : l ≠ []) (h1 : oneL (l.take (rowN l)) = none) : splitL no acc l = ([], no + 1, 3) := by rw [splitL, dif_neg h, h1]
theorem splitL_next {no : Nat} {acc : List Ln} {l : List UInt8} {k : Nat} {t : List UInt8} (h : l ≠ []) (h1 : oneL (l.take (rowN l)) = some (k, t)) :
  splitL no acc l = splitL (no + 1) (if t = [] then acc else acc ++ [⟨no + 1, k, t⟩]) (l.drop (rowN l + 1)) := by rw [splitL, dif_neg h, h1]
def fileL (l : List UInt8) : List Ln × Nat × Int := if 8192 < l.length then ([], 0, 9) else splitL 0 [] l
end Q6
end Go.Proofs.YtmdgpejedbkkdaaGreatDoor
namespace Go.Proofs.YtmdgpejedbkkdaaGreatDoor
namespace B10
open Nw N8 Q6 F9
def hyp (l : L8) : Bool := decide (l.headD 0 = 45) && (decide (l.length = 1) || decide (l.getD 1 0 = 32))
def mrk (l : L8) (k : Nat) : Bool := decide (l.getD k 0 = 58) && (decide (k + 1 = l.length) || decide (l.getD (k + 1) 0 = 32))
def bhd (l : L8) (k : Nat) : L8 := l.drop (k + 1 + blk (l.drop (k + 1)))
def fstM (l : L8) (k : Nat) : Option Nat := if h : k < l.length then (if mrk l k then some k else fstM l (k + 1)) else none
 termination_by l.length - k
def entP (l : L8) : Option (Option (L8 × L8)) :=
 if decide (l = []) || hyp l || decide (l.headD 0 = 91) || decide (l.headD 0 = 123) then some none
 else if isQ (l.headD 0) then
  match scnP l with
  | none => some none
  | some (t, m) => if mrk l m then some (some (t, bhd l m)) else some none
 else
  match fstM l 0 with
  | none => some none
  | some k => if plainB (l.take k) && !decide (l.take k = [60, 60]) then some (some (l.take k, bhd l k)) else none
inductive Res where
 | bad (no : Nat) (e : Int)
 | ok (d : Nd) (k : Nat)
def Res.more (j : Nat) : Res → Res
 | .bad no e => .bad no e
 | .ok d k => .ok d (j + k)
def valL (l : L8) (no : Nat) : Res :=
 if decide (l.headD 0 = 91) || decide (l.headD 0 = 123) then (if parE (parP l) = 0 then .ok (parD (parP l)) 1 else .bad no (parE (parP l)))
 else match sclS false l with
  | none => .bad no 3
  | some d => .ok d 1
def cut1 (x : Ln) : Ln := { no := x.no, ind := x.ind + (1 + indN (x.text.drop 1)), text := x.text.drop (1 + indN (x.text.drop 1)) }
def big : List Ln → Nat
 | [] => 0
 | x :: l => 1 + x.text.length + big l
theorem big_drop : ∀ (k : Nat) (l : List Ln), big (l.drop k) ≤ big l
 | 0, l => Nat.le_refl _
 | k + 1, [] => Nat.le_refl _
 | k + 1, x :: l => by
  have := big_drop k l
  show big (l.drop k) ≤ 1 + x.text.length + big l
  omega
theorem cut1_lt {x : Ln} (h : 1 < x.text.length) : (cut1 x).text.length < x.text.length := by
 show (x.text.drop _).length < _
 rw [List.length_drop]
 omega
def deep (n : Nat) : List Ln → Bool
 | [] => false
 | x :: _ => decide (n < x.ind)
def even (n : Nat) : List Ln → Bool
 | [] => false
 | x :: _ => decide (x.ind = n) && hyp x.text
mutual
def blkB (l : List Ln) : Res :=
 match l with
 | [] => .bad 0 0
 | x :: l =>
  if hyp x.text then seqB x.ind [] (x :: l)
  else match entP x.text with
   | none => .bad x.no 3
   | some none => valL x.text x.no
   | some (some _) => mapB x.ind [] [] (x :: l)
 termination_by 2 * big l + 1
 decreasing_by all_goals omega
def seqB (n : Nat) (ad : List Nd) (l : List Ln) : Res :=
 match l with
 | [] => .ok (.mk 2 [] [] ad) 0
 | x :: l =>
  if x.ind < n then .ok (.mk 2 [] [] ad) 0
  else if n < x.ind then .bad x.no 3
  else if hyp x.text = false then .ok (.mk 2 [] [] ad) 0
  else
   match (if h : 1 < x.text.length then blkB (cut1 x :: l) else if deep n l then (blkB l).more 1 else .ok nul 1) with
   | .bad no e => .bad no e
   | .ok d k => (seqB n (ad ++ [d]) (l.drop (k - 1))).more (k - 1 + 1)
 termination_by 2 * big l
 decreasing_by
  ·have := cut1_lt h; simp only [big]; omega
  ·simp only [big]; omega
  ·have := big_drop (k - 1) l; simp only [big]; omega
def mapB (n : Nat) (ak : List L8) (ad : List Nd) (l : List Ln) : Res :=
 match l with
 | [] => .ok (.mk 3 [] ak ad) 0
 | x :: l =>
  if x.ind < n then .ok (.mk 3 [] ak ad) 0
  else if n < x.ind then .bad x.no 3
  else match entP x.text with
   | none => .bad x.no 3
   | some none => .ok (.mk 3 [] ak ad) 0
   | some (some (y, r)) =>
    if y ∈ ak then .bad x.no 3
    else
     match (if r ≠ [] then valL r x.no else if deep n l || even n l then (blkB l).more 1 else .ok nul 1) with
     | .bad no e => .bad no e
     | .ok d k => (mapB n (ak ++ [y]) (ad ++ [d]) (l.drop (k - 1))).more (k - 1 + 1)
 termination_by 2 * big l
 decreasing_by
  ·simp only [big]; omega
  ·have := big_drop (k - 1) l; simp only [big]; omega
end
def parB (l : L8) : Nd × Nat × Int :=
 match fileL l with
 | (ls, no, E) =>
  if E ≠ 0 then (nul, no, E)
  else match ls with
   | [] => (nul, 0, 0)
   | x :: ls =>
    match blkB (x :: ls) with
    | .bad no e => (nul, no, e)
    | .ok d k =>
     match (x :: ls).drop k with
     | y :: _ => (nul, y.no, 3)
     | [] => if okT 2000 d then (d, 0, 0) else (nul, 0, 9)
end B10
end Go.Proofs.YtmdgpejedbkkdaaGreatDoor
