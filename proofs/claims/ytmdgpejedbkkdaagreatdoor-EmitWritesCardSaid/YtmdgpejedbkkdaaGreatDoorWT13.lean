/- EmiScal, RefNod2, RefEmi1, EmiBlk, RefEmi2, NamRsame, RefNod3, RefFlo1, ShelfS, NamInP -/
import Derived.ChangeAlike
import Derived.Deep.LoopGhost
import Derived.RegionTactic
import Derived.Shelf.Lay
import Derived.Shelf.Slices.CompactS
import Derived.Shelf.Slices.In.SortNone
import Derived.Shelf.Slices.Turned
import Derived.Shelf.Sort.Plain
import Derived.Shelf.Spec.SlicesGrow
import Derived.StillTailTactics
import Derived.Test.YtmdgpejedbkkdaaGreatDoorProg
import Derived.Test.YtmdgpejedbkkdaaGreatDoorWT1
import Derived.Test.YtmdgpejedbkkdaaGreatDoorWT11
import Derived.Test.YtmdgpejedbkkdaaGreatDoorWT12
import Derived.Test.YtmdgpejedbkkdaaGreatDoorWT4
import Derived.Test.YtmdgpejedbkkdaaGreatDoorWT5
import Derived.Test.YtmdgpejedbkkdaaGreatDoorWT6
set_option linter.unusedVariables false
set_option linter.unusedSimpArgs false
set_option maxRecDepth 100000
set_option maxHeartbeats 16000000
open Go.Lib (hid)
namespace Go.Proofs.YtmdgpejedbkkdaaGreatDoor
namespace E11
open Nw N8 Q6 F9 B10
def noq (l : L8) : Bool := l.all fun c => !isQ c
def scw (t : L8) : L8 := if plainB t && noq t then t else dblL t
def keyw (k : L8) : L8 := if k = [60, 60] then dblL k else scw k
def shrt : Nd → Bool | .mk k _ _ ds => decide (k < 2) || decide (ds = [])
def scal : Nd → L8
 | .mk k t _ _ => if k = 0 then [110, 117, 108, 108] else if k = 1 then scw t else if k = 2 then [91, 93] else [123, 125]
theorem plain_facts {t : L8} (h : plainB t = true) : bad3 t = false ∧ t ≠ [] ∧ refH t = true ∧ ∀ i, i < t.length → refI t i = true := by
 unfold plainB at h
 by_cases hb : bad3 t = true
 ·rw [if_pos hb] at h; cases h
 ·rw [if_neg hb] at h
  have hb' : bad3 t = false := by simpa using hb
  have h0 : t ≠ [] := fun e => by rw [e] at hb'; cases hb'
  exact ⟨hb', h0, (plain_to h0 (every_iff.1 h)).1, (plain_to h0 (every_iff.1 h)).2⟩
theorem plain_head {t : L8} (h : plainB t = true) : t.getD 0 0 ≠ 32 ∧ t.getD (t.length - 1) 0 ≠ 32 ∧ has firsts (t.getD 0 0) = false ∧ ¬ (t.getD 0 0 = 45 ∧ (t.length = 1 ∨ t.getD 1 0 = 32)) := by
 have h1 := (plain_facts h).2.2.1
 unfold refH at h1
 simp only [Bool.and_eq_true, Bool.not_eq_true'] at h1
 obtain ⟨⟨⟨a, b⟩, c⟩, d⟩ := h1
 refine ⟨by simpa [isC] using a, by simpa [isC] using b, c, fun ⟨x, y⟩ => ?_⟩
 rw [Bool.and_eq_false_iff] at d
 rcases d with d | d
 ·exact (by simpa [isC] using d : ¬ _) x
 ·rw [Bool.or_eq_false_iff] at d
  rcases y with y | y
  ·exact of_decide_eq_false d.1 y
  ·exact (by simpa [isC] using d.2 : ¬ _) y
theorem plain_at {t : L8} (h : plainB t = true) {i : Nat} (hi : i < t.length) : good (t.getD i 0) = true ∧ ¬ (t.getD i 0 = 58 ∧ (i + 1 = t.length ∨ t.getD (i + 1) 0 = 32)) ∧ ¬ (t.getD i 0 = 35 ∧ 0 < i ∧ t.getD (i - 1) 0 = 32) := by
 have h1 := (plain_facts h).2.2.2 i hi
 unfold refI at h1
 simp only [Bool.and_eq_true, Bool.not_eq_true'] at h1
 obtain ⟨⟨a, b⟩, c⟩ := h1
 refine ⟨a, fun ⟨x, y⟩ => ?_, fun ⟨x, y, z⟩ => ?_⟩
 ·rw [Bool.and_eq_false_iff] at b
  rcases b with b | b
  ·exact (by simpa [isC] using b : ¬ _) x
  ·rw [Bool.or_eq_false_iff] at b
   rcases y with y | y
   ·exact of_decide_eq_false b.1 y
   ·exact (by simpa [isC] using b.2 : ¬ _) y
 ·rw [Bool.and_eq_false_iff, Bool.and_eq_false_iff] at c
  rcases c with (c | c) | c
  ·exact (by simpa [isC] using c : ¬ _) x
  ·exact of_decide_eq_false c y
  ·exact (by simpa [isC] using c : ¬ _) z
theorem noq_at {t : L8} (h : noq t = true) {i : Nat} (hi : i < t.length) : isQ (t.getD i 0) = false := by
 unfold noq at h
 rw [List.all_eq_true] at h
 have := h (t.getD i 0) (by rw [List.getD_eq_getElem?_getD, List.getElem?_eq_getElem hi]; exact List.getElem_mem hi)
 simpa using this
theorem getD_app {t u : L8} {i : Nat} (hi : i < t.length) : (t ++ u).getD i 0 = t.getD i 0 := by
 rw [List.getD_eq_getElem?_getD, List.getD_eq_getElem?_getD, List.getElem?_append_left hi]
theorem getD_app2 {t u : L8} {i : Nat} : (t ++ u).getD (t.length + i) 0 = u.getD i 0 := by
 rw [List.getD_eq_getElem?_getD, List.getD_eq_getElem?_getD, List.getElem?_append_right (by omega), Nat.add_sub_cancel_left]
theorem headD_getD (l : L8) : l.headD 0 = l.getD 0 0 := by cases l <;> rfl
theorem first_not {t : L8} (h : plainB t = true) (hq : noq t = true) : t.headD 0 ≠ 91 ∧ t.headD 0 ≠ 123 ∧ isQ (t.headD 0) = false ∧ t.headD 0 ≠ 35 ∧ t.headD 0 ≠ 32 := by
 obtain ⟨h1, h2, h3, h4⟩ := plain_head h
 have hp := List.length_pos_iff.2 (plain_facts h).2.1
 rw [headD_getD]
 refine ⟨fun e => ?_, fun e => ?_, noq_at hq hp, fun e => ?_, h1⟩ <;> rw [e] at h3 <;> revert h3 <;> decide
theorem hyp_plain {t : L8} (h : plainB t = true) (u : L8) (hu : u = [] ∨ u.headD 0 ≠ 32) : hyp (t ++ u) = false := by
 obtain ⟨h1, h2, h3, h4⟩ := plain_head h
 have hp := List.length_pos_iff.2 (plain_facts h).2.1
 unfold hyp
 rw [headD_getD, getD_app hp]
 by_cases h45 : t.getD 0 0 = 45
 ·have hl : t.length ≠ 1 := fun e => h4 ⟨h45, .inl e⟩
  have h32 : t.getD 1 0 ≠ 32 := fun e => h4 ⟨h45, .inr e⟩
  rw [getD_app (show 1 < t.length by omega), decide_eq_false h32, decide_eq_false (show ¬ (t ++ u).length = 1 by rw [List.length_append]; omega)]
  simp
 ·rw [decide_eq_false h45]; rfl
theorem mrk_plain {t : L8} (h : plainB t = true) (u : L8) {i : Nat} (hi : i < t.length) : mrk (t ++ u) i = false := by
 obtain ⟨_, h2, _⟩ := plain_at h hi
 unfold mrk
 rw [getD_app hi]
 by_cases h58 : t.getD i 0 = 58
 ·have hl : i + 1 ≠ t.length := fun e => h2 ⟨h58, .inl e⟩
  have h32 : t.getD (i + 1) 0 ≠ 32 := fun e => h2 ⟨h58, .inr e⟩
  rw [getD_app (show i + 1 < t.length by omega), decide_eq_false h32, decide_eq_false (show ¬ i + 1 = (t ++ u).length by rw [List.length_append]; omega)]
  simp
 ·rw [decide_eq_false h58]; rfl
theorem fst_out {l : L8} (h2 : ∀ i, i < l.length → mrk l i = false) : ∀ (n k : Nat), l.length - k ≤ n → fstM l k = none
 | 0, k, h => by rw [fstM, dif_neg (by omega)]
 | n + 1, k, h => by
  by_cases hk : k < l.length
  ·rw [fstM, dif_pos hk, if_neg (by rw [h2 k hk]; decide)]
   exact fst_out h2 n (k + 1) (by omega)
  ·rw [fstM, dif_neg hk]
theorem fst_none {l : L8} (h2 : ∀ i, i < l.length → mrk l i = false) : fstM l 0 = none := fst_out h2 _ 0 (Nat.le_refl _)
theorem dbl_head (t u : L8) : (dblL t ++ u).headD 0 = 34 := rfl
theorem scw_line (t : L8) : hyp (scw t) = false ∧ entP (scw t) = some none ∧ (scw t).headD 0 ≠ 91 ∧ (scw t).headD 0 ≠ 123 ∧ (scw t).headD 0 ≠ 32 ∧ (scw t).headD 0 ≠ 35 ∧ scw t ≠ [] := by
 unfold scw
 by_cases hp : (plainB t && noq t) = true
 ·rw [if_pos hp]
  rw [Bool.and_eq_true] at hp
  obtain ⟨h1, h2⟩ := hp
  obtain ⟨f1, f2, f3, f4, f5⟩ := first_not h1 h2
  have hh : hyp t = false := by have := hyp_plain h1 [] (.inl rfl); rwa [List.append_nil] at this
  have h0 := (plain_facts h1).2.1
  have hn : fstM t 0 = none := fst_none fun i hi => by have := mrk_plain h1 [] hi; rwa [List.append_nil] at this
  refine ⟨hh, ?_, f1, f2, f5, f4, h0⟩
  unfold entP
  rw [decide_eq_false h0, hh, decide_eq_false f1, decide_eq_false f2, f3, hn]; rfl
 ·rw [if_neg hp]
  have hd : dblL t = dblL t ++ [] := (List.append_nil _).symm
  refine ⟨rfl, ?_, by rw [hd, dbl_head]; decide, by rw [hd, dbl_head]; decide, by rw [hd, dbl_head]; decide, by rw [hd, dbl_head]; decide, by unfold dblL; simp⟩
  have hs : scnP (dblL t) = some (t, (dblL t).length) := by rw [hd, scn_dbl, List.append_nil]
  unfold entP
  rw [decide_eq_false (by unfold dblL; simp : ¬ dblL t = []), show hyp (dblL t) = false from rfl, show (dblL t).headD 0 = 34 from rfl, show isQ 34 = true from rfl, hs]
  show (if mrk (dblL t) (dblL t).length = true then _ else some none) = some none
  rw [if_neg]
  unfold mrk
  rw [List.getD_eq_getElem?_getD, List.getElem?_eq_none (Nat.le_refl _), show (decide ((none : Option UInt8).getD 0 = 58)) = false from rfl]
  simp
end E11
end Go.Proofs.YtmdgpejedbkkdaaGreatDoor
namespace Go.Proofs.YtmdgpejedbkkdaaGreatDoor
section
open Go.RowKit Go.Sort
open Nw N8
theorem ba_size (l : L8) : (ba l).size = l.length := by simp [ba, ByteArray.size]
theorem rd_slice {w : World} {v : Value} {l : List L8} (h : Rd w v l) : ∃ (a : Option Addr) (cap : Nat), v = .slice a l.length cap ∧ l.length ≤ cap ∧ cap ≤ maxLen := by
 obtain ⟨a, cap, hv, h1, h2, _⟩ := h
 exact ⟨a, cap, hv, h1, h2⟩
theorem rd_at {w : World} {a : Option Addr} {n cap : Nat} {l : List L8} (h : Rd w (.slice a n cap) l) (j : Nat) (hj : j < l.length) :
  ∃ b o, a = some ⟨b, o, none⟩ ∧ b < w.heap.size ∧ w.cell? ⟨b, o + j, none⟩ = some (.string (ba (l[j]'hj))) := by
 obtain ⟨a', cap', hv, h1, h2, h3⟩ := h
 have hAe : a = a' := by injection hv
 subst hAe
 rcases h3 with ⟨h3, _⟩ | ⟨b, o, h4, h5, h6⟩
 ·subst h3; cases hj
 ·exact ⟨b, o, h4, h5, h6 j hj⟩
theorem Boxed.keys {w0 w : World} {k : Int} {t : L8} {ks : List L8} {ds : List Nd} {c0 c1 c2 c3 : Value} (h : Boxed w0 w (.mk k t ks ds) c0 c1 c2 c3) : Rd w c2 ks := h.2.2.parts.2.2.1
theorem shortL_no : ∀ {ds : List Nd} {j : Nat} (h : j < ds.length), shortT (ds[j]'h) = false → shortL ds = false
 | d :: ds, 0, _, hs => by
  have hs' : shortT d = false := hs
  rw [shortL, hs']; rfl
 | d :: ds, j + 1, h, hs => by
  have hs' : shortT (ds[j]'(Nat.lt_of_succ_lt_succ h)) = false := hs
  rw [shortL, shortL_no _ hs', Bool.and_false]
theorem shortL_all : ∀ {ds : List Nd}, (∀ (j : Nat) (h : j < ds.length), shortT (ds[j]'h) = true) → shortL ds = true
 | [], _ => rfl
 | d :: ds, h => by
  have h0 : shortT d = true := h 0 (Nat.succ_pos _)
  rw [shortL, h0, shortL_all fun j hj => h (j + 1) (Nat.succ_lt_succ hj)]; rfl
theorem keys_no {ks : List L8} {j : Nat} (h : j < ks.length) (hl : 200 < (ks[j]'h).length) : (ks.all fun k => decide (k.length ≤ 200)) = false := by
 rw [Bool.eq_false_iff]
 intro e
 have := of_decide_eq_true (List.all_eq_true.1 e _ (List.getElem_mem h))
 omega
theorem keys_all {ks : List L8} (h : ∀ (j : Nat) (hj : j < ks.length), (ks[j]'hj).length ≤ 200) : (ks.all fun k => decide (k.length ≤ 200)) = true := by
 rw [List.all_eq_true]
 intro k hk
 obtain ⟨j, hj, rfl⟩ := List.mem_iff_getElem.1 hk
 exact decide_eq_true (h j hj)
end
section
open Go.RowKit Go.Sort
open Nw N8 Q6 F9 B10 E11
theorem str_of {a b : ByteArray} (h : a.data.toList = b.data.toList) : Ending.returned (.string a) = .returned (.string b) := by
 rw [show a = b by rw [← ba_of a, ← ba_of b, h]]
theorem noq_step {l : L8} {k : Nat} (hk : k < l.length) : noq (l.take (k + 1)) = (noq (l.take k) && !isQ (l.getD k 0)) := by
 unfold noq
 rw [List.take_add_one, List.all_append, List.getElem?_eq_getElem hk]
 simp [List.getD_eq_getElem?_getD, List.getElem?_eq_getElem hk]
theorem RScalar11_any (s : ByteArray) (w : World) (hs : s.size ≤ 1000000) (q : ByteArray) (hq : scw s.data.toList = q.data.toList) :
  Calls Tryz.prog 12 #[.string s] w fun e w' => e = .returned (.string q) ∧ Below w.heap.size w w' := by
 have HLEN := hid (len_eq s)
 obtain ⟨b0, hb0⟩ : ∃ b, plainB s.data.toList = b := ⟨_, rfl⟩
 have HP := hid (RPlain_q s b0 w hs hb0)
 have HB0 := hid hb0
 have HQ := hid hq
 have HD := hid (fun (hb : (plainB s.data.toList && noq s.data.toList) = false) => RDouble_any s w hs q (by rw [← hq]; unfold scw; rw [hb]; rfl))
 clear hb0 hq
 go_enter Tryz.func12, Tryz.ntmps12
 go_wp2_with fail
 refine HP.out.mono ?_
 rintro e w1 ⟨rfl, rfl⟩
 go_wp2
 go_loop [3, 4] (fun p i => ∃ k : Nat, k ≤ s.size ∧ i = .int .i64 k ∧ p = .bool (b0 && noq (s.data.toList.take k))) (fun _ i => s.size - (intOf i).toNat)
 case atStart => exact ⟨0, Nat.zero_le _, rfl, by rw [List.take_zero]; cases b0 <;> rfl⟩
 case round =>
  obtain ⟨k, hk, rfl, rfl⟩ := hrel
  by_cases hlt : k < s.size
  ·have hkl : k < s.data.toList.length := by rw [HLEN.out]; exact hlt
   have hd : s.data.toList.getD k 0 = s[k]'hlt := getd_s s k hlt
   obtain ⟨d, hdd⟩ : ∃ d, s[k]'hlt = d := ⟨_, rfl⟩
   rw [hdd] at hd
   have hst := noq_step hkl
   rw [hd] at hst
   obtain ⟨p0, hp0⟩ : ∃ p0, (b0 && noq (s.data.toList.take k)) = p0 := ⟨_, rfl⟩
   have hp1 : (b0 && noq (s.data.toList.take (k + 1))) = (p0 && !isQ d) := by rw [hst, ← hp0, Bool.and_assoc]
   rw [hp0]
   have HP1 := hid hp1
   clear hd hkl hst hp0 hp1
   by_cases h1 : d = 34
   ·subst h1
    have m : ((34 : UInt8).toNat : Int) = 34 := rfl
    go_wp2
    go_round
    case rel => exact ⟨k + 1, by omega, by go_num, by rw [HP1.out]; cases p0 <;> rfl⟩
    case measure => simp [intOf]; omega
   ·have m1 : ((d.toNat : Int) == 34) = false := beq_eq_false_iff_ne.2 (fun e => h1 (UInt8.toNat_inj.1 (by show d.toNat = 34; omega)))
    by_cases h2 : d = 39
    ·subst h2
     go_wp2
     go_round
     case rel => exact ⟨k + 1, by omega, by go_num, by rw [HP1.out]; cases p0 <;> rfl⟩
     case measure => simp [intOf]; omega
    ·have m2 : ((d.toNat : Int) == 39) = false := beq_eq_false_iff_ne.2 (fun e => h2 (UInt8.toNat_inj.1 (by show d.toNat = 39; omega)))
     have HI : Hid (isQ d = false) := hid (by unfold isQ; rw [decide_eq_false h1, decide_eq_false h2]; rfl)
     clear h1 h2
     go_wp2
     go_round
     case rel => exact ⟨k + 1, by omega, by go_num, by rw [HP1.out, HI.out]; cases p0 <;> rfl⟩
     case measure => simp [intOf]; omega
  ·obtain rfl : k = s.size := by omega
   have hall : s.data.toList.take s.size = s.data.toList := List.take_of_length_le (by rw [HLEN.out]; exact Nat.le_refl _)
   rw [hall]
   obtain ⟨p0, hp0⟩ : ∃ p0, (b0 && noq s.data.toList) = p0 := ⟨_, rfl⟩
   rw [hp0]
   have hp1 : (plainB s.data.toList && noq s.data.toList) = p0 := by rw [HB0.out, hp0]
   cases p0 with
   | true =>
    have HE : Hid (s.data.toList = q.data.toList) := hid (by rw [← HQ.out]; unfold scw; rw [hp1]; rfl)
    clear hall hp0 hp1
    go_wp2
    go_ret
    exact ⟨str_of HE.out, Below.refl _ _⟩
   | false =>
    have HDD := hid (HD.out hp1)
    clear hall hp0 hp1
    go_wp2_with fail
    refine HDD.out.mono ?_
    rintro e w2 ⟨rfl, hb⟩
    go_wp2
    go_ret
    exact ⟨rfl, hb⟩
end
end Go.Proofs.YtmdgpejedbkkdaaGreatDoor
namespace Go.Proofs.YtmdgpejedbkkdaaGreatDoor
namespace E11
open Nw N8 Q6 F9 B10
def dash (p : Nat) : List (Nat × L8) → List (Nat × L8)
 | [] => []
 | x :: l => (p, 45 :: 32 :: x.2) :: l
mutual
def rws : Nd → Nat → List (Nat × L8)
 | .mk k _ ks ds, p => if k = 2 then rwS ds p else rwM ks ds p
def rwS : List Nd → Nat → List (Nat × L8)
 | [], _ => []
 | d :: ds, p => (if shrt d then [(p, 45 :: 32 :: scal d)] else dash p (rws d (p + 2))) ++ rwS ds p
def rwM : List L8 → List Nd → Nat → List (Nat × L8)
 | k :: ks, d :: ds, p => (if shrt d then [(p, keyw k ++ 58 :: 32 :: scal d)] else (p, keyw k ++ [58]) :: rws d (p + 2)) ++ rwM ks ds p
 | _, _, _ => []
end
end E11
end Go.Proofs.YtmdgpejedbkkdaaGreatDoor
namespace Go.Proofs.YtmdgpejedbkkdaaGreatDoor
section
open Go.RowKit Go.Sort
open Nw N8 Q6 F9 B10 E11
theorem bool_of {b c : Bool} (h : b = c) : Ending.returned (.bool c) = .returned (.bool b) := by rw [h]
theorem RShort11_any (d : Nd) (b : Bool) (hb : shrt d = b) (c0 c1 c2 c3 : Value) (w : World) (hd : NdW w d c0 c1 c2 c3) :
  Calls Tryz.prog 21 #[.agg #[c0, c1, c2, c3]] w fun e w' => e = .returned (.bool b) ∧ Below w.heap.size w w' := by
 obtain ⟨k, t, ks, ds⟩ := d
 have HB := hid (Boxed.make hd)
 obtain ⟨rfl, rfl, _, A, cap, rfl, hcap, hcm, _⟩ := hd.parts
 obtain ⟨T, hT⟩ : ∃ T, ba t = T := ⟨_, rfl⟩
 rw [hT] at HB ⊢
 obtain ⟨n, hn⟩ : ∃ n, ds.length = n := ⟨_, rfl⟩
 rw [hn] at HB ⊢
 have hb' : (decide (k < 2) || decide (ds = [])) = b := hb
 have he : decide (ds = []) = decide (n = 0) := by
  rw [decide_eq_decide, ← hn]; exact List.length_eq_zero_iff.symm
 rw [he] at hb'
 obtain ⟨x0, x1, x2, x3⟩ := HB.out.2.1.cells
 clear hd hb hT hn he
 by_cases h2 : k < 2
 ·have HE : Hid (b = true) := hid (by rw [← hb', decide_eq_true h2]; rfl)
  clear hb'
  go_enter Tryz.func21, Tryz.ntmps21
  go_wp2
  go_ret
  exact ⟨bool_of HE.out, HB.out.1⟩
 ·by_cases h0 : n = 0
  ·subst h0
   have HE : Hid (b = true) := hid (by rw [← hb', decide_eq_false h2]; rfl)
   clear hb'
   go_enter Tryz.func21, Tryz.ntmps21
   go_wp2
   go_ret
   exact ⟨bool_of HE.out, HB.out.1⟩
  ·have m0 : ((n : Int) == 0) = false := beq_eq_false_iff_ne.2 (by omega)
   have HE : Hid (b = false) := hid (by rw [← hb', decide_eq_false h2, decide_eq_false h0]; rfl)
   clear hb'
   go_enter Tryz.func21, Tryz.ntmps21
   go_wp2
   go_ret
   exact ⟨bool_of HE.out, HB.out.1⟩
theorem Rscal11_any (d : Nd) (hf : N8.Fine d) (ht : d.text.length ≤ 1000000) (q : ByteArray) (hq : scal d = q.data.toList) (c0 c1 c2 c3 : Value) (w : World) (hd : NdW w d c0 c1 c2 c3) :
  Calls Tryz.prog 22 #[.agg #[c0, c1, c2, c3]] w fun e w' => e = .returned (.string q) ∧ Below w.heap.size w w' := by
 obtain ⟨k, t, ks, ds⟩ := d
 have HB := hid (Boxed.make hd)
 obtain ⟨⟨h0, h3⟩, -, -, -, -⟩ := fine_in hf
 obtain ⟨rfl, rfl, _, A, cap, rfl, _⟩ := hd.parts
 obtain ⟨T, hT⟩ : ∃ T, ba t = T := ⟨_, rfl⟩
 have hTt : T.data.toList = t := by rw [← hT, ba_data]
 rw [hT] at HB ⊢
 obtain ⟨n, hn⟩ : ∃ n, ds.length = n := ⟨_, rfl⟩
 rw [hn] at HB ⊢
 have hq' : (if k = 0 then [110, 117, 108, 108] else if k = 1 then scw t else if k = 2 then [91, 93] else [123, 125]) = q.data.toList := hq
 obtain ⟨x0, x1, x2, x3⟩ := HB.out.2.1.cells
 have hk4 : k = 0 ∨ k = 1 ∨ k = 2 ∨ k = 3 := by omega
 rcases hk4 with rfl | rfl | rfl | rfl
 ·have HQ : Hid ((⟨#[110, 117, 108, 108]⟩ : ByteArray).data.toList = q.data.toList) := hid (by rw [← hq', if_pos rfl])
  clear hd hf hT hTt hq hq' ht h0 h3 hn
  go_enter Tryz.func22, Tryz.ntmps22
  go_wp2
  go_ret
  exact ⟨str_of HQ.out, HB.out.1⟩
 ·have HT := hid (fun W => RScalar11_any T W (by rw [← len_eq, hTt]; exact ht) q (by rw [hTt, ← hq', if_neg (by decide), if_pos rfl]))
  clear hd hf hT hTt hq hq' ht h0 h3 hn
  go_enter Tryz.func22, Tryz.ntmps22
  go_wp2_with fail
  refine (HT.out _).mono ?_
  rintro e w1 ⟨rfl, hb⟩
  go_wp2
  go_ret
  exact ⟨rfl, (HB.out.go hb).1⟩
 ·have HQ : Hid ((⟨#[91, 93]⟩ : ByteArray).data.toList = q.data.toList) := hid (by rw [← hq', if_neg (by decide), if_neg (by decide), if_pos rfl])
  clear hd hf hT hTt hq hq' ht h0 h3 hn
  go_enter Tryz.func22, Tryz.ntmps22
  go_wp2
  go_ret
  exact ⟨str_of HQ.out, HB.out.1⟩
 ·have HQ : Hid ((⟨#[123, 125]⟩ : ByteArray).data.toList = q.data.toList) := hid (by rw [← hq', if_neg (by decide), if_neg (by decide), if_neg (by decide)])
  clear hd hf hT hTt hq hq' ht h0 h3 hn
  go_enter Tryz.func22, Tryz.ntmps22
  go_wp2
  go_ret
  exact ⟨str_of HQ.out, HB.out.1⟩
end
section
open Go.RowKit Go.Sort
open Nw
theorem ret_bool {a b : Bool} (h : a = b) : Ending.returned (.bool a) = .returned (.bool b) := by rw [h]
end
section
open Go.RowKit Go.Sort
open Nw N8
theorem below_drew (w : World) : Below w.heap.size w w.drew := ⟨rfl, rfl, rfl, Nat.le_refl _, fun _ _ => rfl⟩
end
section
open Go.RowKit Go.Sort
open Nw N8 Q6 F9
theorem ret_i {a b : Int} (h : a = b) : Ending.returned (.int .i64 a) = .returned (.int .i64 b) := by rw [h]
end
end Go.Proofs.YtmdgpejedbkkdaaGreatDoor
namespace Go.Proofs
open Go.Shelf
def Tryz.lays190_ren : Go.Shelf.Ren := ⟨fun | 190 => 157 | 125 => 169 | 258 => 168 | 128 => 184 | 129 => 185 | 302 => 175 | 303 => 176 | 304 => 177 | 305 => 178 | 306 => 179 | 307 => 180 | 308 => 181 | 309 => 182 | 310 => 183 | 333 => 190 | 329 => 191 | 330 => 192 | 334 => 193 | 335 => 194 | 336 => 195 | 344 => 197 | n => n, fun | 31 => 22 | 9 => 9 | 3 => 3 | 46 => 91 | 0 => 0 | 51 => 140 | 53 => 167 | 4 => 4 | 183 => 160 | 182 => 159 | 131 => 94 | 5 => 5 | 218 => 168 | 222 => 81 | 228 => 174 | 229 => 100 | n => n, fun | n => n⟩
theorem Tryz.lays190 : Go.Proofs.Lays.n190 Tryz.prog Tryz.lays190_ren := {
 mixed := by kernel_rfl
 f125 := Tryz.func169.trans (congrArg some (by kernel_rfl))
 f128 := Tryz.func184.trans (congrArg some (by kernel_rfl))
 f129 := Tryz.func185.trans (congrArg some (by kernel_rfl))
 f190 := Tryz.func157.trans (congrArg some (by kernel_rfl))
 f258 := Tryz.func168.trans (congrArg some (by kernel_rfl))
 f302 := Tryz.func175.trans (congrArg some (by kernel_rfl))
 f303 := Tryz.func176.trans (congrArg some (by kernel_rfl))
 f304 := Tryz.func177.trans (congrArg some (by kernel_rfl))
 f305 := Tryz.func178.trans (congrArg some (by kernel_rfl))
 f306 := Tryz.func179.trans (congrArg some (by kernel_rfl))
 f307 := Tryz.func180.trans (congrArg some (by kernel_rfl))
 f308 := Tryz.func181.trans (congrArg some (by kernel_rfl))
 f309 := Tryz.func182.trans (congrArg some (by kernel_rfl))
 f310 := Tryz.func183.trans (congrArg some (by kernel_rfl))
 f329 := Tryz.func191.trans (congrArg some (by kernel_rfl))
 f330 := Tryz.func192.trans (congrArg some (by kernel_rfl))
 f333 := Tryz.func190.trans (congrArg some (by kernel_rfl))
 f334 := Tryz.func193.trans (congrArg some (by kernel_rfl))
 f335 := Tryz.func194.trans (congrArg some (by kernel_rfl))
 f336 := Tryz.func195.trans (congrArg some (by kernel_rfl))
 f344 := Tryz.func197.trans (congrArg some (by kernel_rfl))
 t0 := Tryz.underlying0
 a0 := Tryz.isAgg0
 z0 := Tryz.sizeOf0
 v0 := Tryz.zeroValue0
 t3 := Tryz.underlying3
 a3 := Tryz.isAgg3
 z3 := Tryz.sizeOf3
 v3 := Tryz.zeroValue3
 t4 := Tryz.underlying4
 a4 := Tryz.isAgg4
 z4 := Tryz.sizeOf4
 v4 := Tryz.zeroValue4
 t5 := Tryz.underlying5
 a5 := Tryz.isAgg5
 z5 := Tryz.sizeOf5
 v5 := Tryz.zeroValue5
 t9 := Tryz.underlying9
 a9 := Tryz.isAgg9
 z9 := Tryz.sizeOf9
 v9 := Tryz.zeroValue9
 t31 := Tryz.underlying22
 a31 := Tryz.isAgg22
 z31 := Tryz.sizeOf22
 v31 := Tryz.zeroValue22
 t46 := Tryz.underlying91
 a46 := Tryz.isAgg91
 z46 := Tryz.sizeOf91
 v46 := Tryz.zeroValue91
 t51 := Tryz.underlying140
 a51 := Tryz.isAgg140
 z51 := Tryz.sizeOf140
 v51 := Tryz.zeroValue140
 t53 := Tryz.underlying167
 a53 := Tryz.isAgg167
 z53 := Tryz.sizeOf167
 v53 := Tryz.zeroValue167
 t131 := Tryz.underlying94
 a131 := Tryz.isAgg94
 z131 := Tryz.sizeOf94
 v131 := Tryz.zeroValue94
 t182 := Tryz.underlying159
 a182 := Tryz.isAgg159
 z182 := Tryz.sizeOf159
 v182 := Tryz.zeroValue159
 t183 := Tryz.underlying160
 a183 := Tryz.isAgg160
 z183 := Tryz.sizeOf160
 v183 := Tryz.zeroValue160
 t218 := Tryz.underlying168
 a218 := Tryz.isAgg168
 z218 := Tryz.sizeOf168
 v218 := Tryz.zeroValue168
 t222 := Tryz.underlying81
 a222 := Tryz.isAgg81
 z222 := Tryz.sizeOf81
 v222 := Tryz.zeroValue81
 t228 := Tryz.underlying174
 a228 := Tryz.isAgg174
 z228 := Tryz.sizeOf174
 v228 := Tryz.zeroValue174
 t229 := Tryz.underlying100
 a229 := Tryz.isAgg100
 z229 := Tryz.sizeOf100
 v229 := Tryz.zeroValue100 }
open Go.Sort Go.RowKit in
theorem Tryz.slices_Sort_string (blk off cap : Nat) (ss : List (List UInt8)) (w : World) (hH : Holds encStr w blk off ss.toArray) (hblk : blk < w.heap.size) (hsz : ss.length < 4611686018427387904) :
  Calls Tryz.prog 157 #[.slice (some ⟨blk, off, none⟩) ss.length cap] w fun e w' =>
   e = .returned (.tuple #[]) ∧ ∃ n os, w' = grow (putRow encStr (Sort.ahead w n) blk off (ss.mergeSort fun x y => decide (x ≤ y)).toArray) os := Any.slices_Sort_string Tryz.lays190 blk off cap ss w hH hblk hsz
def Tryz.lays110_ren : Go.Shelf.Ren := ⟨fun | 110 => 131 | 109 => 140 | n => n, fun | 31 => 22 | 9 => 9 | 4 => 4 | 3 => 3 | 0 => 0 | n => n, fun | n => n⟩
theorem Tryz.lays110 : Go.Proofs.Lays.n110 Tryz.prog Tryz.lays110_ren := {
 mixed := by kernel_rfl
 f109 := Tryz.func140.trans (congrArg some (by kernel_rfl))
 f110 := Tryz.func131.trans (congrArg some (by kernel_rfl))
 t0 := Tryz.underlying0
 a0 := Tryz.isAgg0
 z0 := Tryz.sizeOf0
 v0 := Tryz.zeroValue0
 t3 := Tryz.underlying3
 a3 := Tryz.isAgg3
 z3 := Tryz.sizeOf3
 v3 := Tryz.zeroValue3
 t4 := Tryz.underlying4
 a4 := Tryz.isAgg4
 z4 := Tryz.sizeOf4
 v4 := Tryz.zeroValue4
 t9 := Tryz.underlying9
 a9 := Tryz.isAgg9
 z9 := Tryz.sizeOf9
 v9 := Tryz.zeroValue9
 t31 := Tryz.underlying22
 a31 := Tryz.isAgg22
 z31 := Tryz.sizeOf22
 v31 := Tryz.zeroValue22 }
open Go.Lib in
theorem Tryz.slices_Contains_string (b off n c : Nat) (zs : List ByteArray) (x : ByteArray) (w : World) (hz : n ≤ zs.length) (hbig : n ≤ 9223372036854775807) (hc : ∀ j, j < zs.length → w.cell? ⟨b, off + j, none⟩ = some (.string (zs.getD j ByteArray.empty))) :
  Calls Tryz.prog 131 #[.slice (some ⟨b, off, none⟩) n c, .string x] w fun e w' => e = .returned (.bool (Lib.containsS (zs.take n) x)) ∧ w' = w := Any.slices_Contains_string Tryz.lays110 b off n c zs x w hz hbig hc
open Go.Lib in
theorem Tryz.slices_Contains_string_empty (a : Option Addr) (c : Nat) (x : ByteArray) (w : World) :
  Calls Tryz.prog 131 #[.slice a 0 c, .string x] w fun e w' => e = .returned (.bool false) ∧ w' = w := Any.slices_Contains_string_empty Tryz.lays110 a c x w
def Tryz.lays194_ren : Go.Shelf.Ren := ⟨fun | 194 => 158 | n => n, fun | 31 => 22 | 9 => 9 | 3 => 3 | 4 => 4 | 0 => 0 | n => n, fun | n => n⟩
theorem Tryz.lays194 : Go.Proofs.Lays.n194 Tryz.prog Tryz.lays194_ren := {
 mixed := by kernel_rfl
 f194 := Tryz.func158.trans (congrArg some (by kernel_rfl))
 t0 := Tryz.underlying0
 a0 := Tryz.isAgg0
 z0 := Tryz.sizeOf0
 v0 := Tryz.zeroValue0
 t3 := Tryz.underlying3
 a3 := Tryz.isAgg3
 z3 := Tryz.sizeOf3
 v3 := Tryz.zeroValue3
 t4 := Tryz.underlying4
 a4 := Tryz.isAgg4
 z4 := Tryz.sizeOf4
 v4 := Tryz.zeroValue4
 t9 := Tryz.underlying9
 a9 := Tryz.isAgg9
 z9 := Tryz.sizeOf9
 v9 := Tryz.zeroValue9
 t31 := Tryz.underlying22
 a31 := Tryz.isAgg22
 z31 := Tryz.sizeOf22
 v31 := Tryz.zeroValue22 }
open Go.RowKit Go.Lib Go.Sort in
theorem Tryz.slices_Compact_string (blk off cap : Nat) (zs : List (List UInt8)) (w : World) (hH : Holds encStr w blk off zs.toArray) (hsz : zs.length ≤ 9223372036854775807) (hcap : zs.length ≤ cap) :
  Calls Tryz.prog 158 #[.slice (some ⟨blk, off, none⟩) zs.length cap] w fun e w' => e = .returned (.slice (some ⟨blk, off, none⟩) (Lib.compact zs).length cap) ∧ ∃ q, w' = putRow encStr (Sort.ahead w q) blk off (Lib.compact zs ++ List.replicate (zs.length - (Lib.compact zs).length) []).toArray := Any.slices_Compact_string Tryz.lays194 blk off cap zs w hH hsz hcap
open Go.RowKit Go.Lib Go.Sort in
theorem Tryz.slices_Compact_string_empty (a : Option Addr) (cap : Nat) (w : World) :
  Calls Tryz.prog 158 #[.slice a 0 cap] w fun e w' => e = .returned (.slice a 0 cap) ∧ w' = w := Any.slices_Compact_string_empty Tryz.lays194 a cap w
open Go.RowKit Go.Sort in
theorem Tryz.slices_Sort_string_none (p : Option Addr) (cap : Nat) (w : World) :
  Calls Tryz.prog 157 #[.slice p 0 cap] w fun e w' => e = .returned (.tuple #[]) ∧ w' = w := Any.slices_Sort_string_none Tryz.lays190 p cap w
def Tryz.lays8n4_ren : Go.Shelf.Ren := ⟨fun | 4 => 159 | n => n, fun | 22 => 22 | 25 => 9 | 3 => 3 | 4 => 4 | 9 => 9 | 20 => 20 | 0 => 0 | n => n, fun | n => n⟩
theorem Tryz.lays8n4 : Go.Proofs.Lays8.n4 Tryz.prog Tryz.lays8n4_ren := {
 mixed := by kernel_rfl
 f4 := ⟨Tryz.f159.name, by decide, Tryz.func159.trans (congrArg some (by kernel_rfl))⟩
 t0 := Tryz.underlying0
 a0 := Tryz.isAgg0
 z0 := Tryz.sizeOf0
 v0 := Tryz.zeroValue0
 t3 := Tryz.underlying3
 a3 := Tryz.isAgg3
 z3 := Tryz.sizeOf3
 v3 := Tryz.zeroValue3
 t4 := Tryz.underlying4
 a4 := Tryz.isAgg4
 z4 := Tryz.sizeOf4
 v4 := Tryz.zeroValue4
 t9 := Tryz.underlying9
 a9 := Tryz.isAgg9
 z9 := Tryz.sizeOf9
 v9 := Tryz.zeroValue9
 t20 := Tryz.underlying20
 a20 := Tryz.isAgg20
 z20 := Tryz.sizeOf20
 v20 := Tryz.zeroValue20
 t22 := Tryz.underlying22
 a22 := Tryz.isAgg22
 z22 := Tryz.sizeOf22
 v22 := Tryz.zeroValue22 }
open Go.RowKit in
theorem Tryz.slices_Grow_room (base : Option Addr) (l c n : Nat) (w : World) (hlc : l ≤ c) (hc63 : c ≤ 9223372036854775807) (hn63 : n ≤ 9223372036854775807) (hroom : l + n ≤ c) :
  Calls Tryz.prog 159 #[.slice base l c, .int .i64 n] w fun e w' => e = .returned (.slice base l c) ∧ w' = w := Any8.slices_Grow_room Tryz.lays8n4 base l c n w hlc hc63 hn63 hroom
open Go.RowKit Go.Lib in
theorem Tryz.slices_Grow_grow (i0 : TypeInfo) (z : Value) (hi0 : Tryz.prog.info? 9 = some i0) (hz0 : i0.zero = some z) (hs0 : 0 < i0.size)
  (base : Option Addr) (l c n : Nat) (cs : List Value) (w : World) (hlc : l ≤ c) (hroom : c < l + n) (hbig : (l + n) * i0.bytes ≤ 140737488355328) (h63 : l + n ≤ 4611686018427387904)
  (hcl : cs.length = c * i0.size) (hnil : base = none → c = 0) (hcs : ∀ a, base = some a → ∀ j v, cs[j]? = some v → w.cell? (a.add j) = some v) :
  Calls Tryz.prog 159 #[.slice base l c, .int .i64 n] w fun e w' =>
   e = .returned (.slice (some ⟨w.heap.size, 0, none⟩) l (grownCap w (l + n) c 9)) ∧
   w' = w.drew.alloc (.cells (cs.toArray ++ Builtin.zeroCells z.cells (l + n - c) ++ Builtin.zeroCells z.cells (grownCap w (l + n) c 9 - (l + n))) 9) := Any8.slices_Grow_grow Tryz.lays8n4 i0 z hi0 hz0 hs0 base l c n cs w hlc hroom hbig h63 hcl hnil hcs
end Go.Proofs
namespace Go.Proofs.YtmdgpejedbkkdaaGreatDoor
section
open Go.RowKit Go.Sort
open Nw
theorem containsS_mem (l : List L8) (s : ByteArray) : Lib.containsS ((l.map ba).take l.length) s = decide (s.data.toList ∈ l) := by
 rw [List.take_of_length_le (by simp)]
 rw [Bool.eq_iff_iff, Lib.containsS_iff, decide_eq_true_eq]
 constructor
 ·intro h
  obtain ⟨x, hx, rfl⟩ := List.mem_map.1 h
  rwa [ba_data]
 ·intro h; exact List.mem_map.2 ⟨_, h, ba_of s⟩
theorem In_any (v : Value) (l : List L8) (s : ByteArray) (w : World) (h : Rd w v l) :
  Calls Tryz.prog 109 #[v, .string s] w fun e w' => e = .returned (.bool (decide (s.data.toList ∈ l))) ∧ w = w' := by
 rcases h.cases with ⟨a, cap, rfl, rfl, _⟩ | ⟨b, o, cap, rfl, h1, h2, h3, h4⟩
 ·have hcon := Tryz.slices_Contains_string_empty a cap s w
  go_enter Tryz.func109, Tryz.ntmps109
  go_wp2_with (go_at_call 131; refine hcon.mono ?_; rintro e w' ⟨rfl, rfl⟩)
  go_ret
  exact ⟨ret_bool (by simp), rfl⟩
 ·have hcon := Tryz.slices_Contains_string b o l.length cap (l.map ba) s w (by simp) (by unfold maxLen at h2; omega) (fun j hj => by rw [map_ba l j hj]; exact h4 j (by simpa using hj))
  rw [containsS_mem] at hcon
  clear h h4
  generalize decide (s.data.toList ∈ l) = r at hcon ⊢
  go_enter Tryz.func109, Tryz.ntmps109
  go_wp2_with (go_at_call 131; refine hcon.mono ?_; rintro e w' ⟨rfl, rfl⟩)
  go_ret
  exact ⟨rfl, rfl⟩
end
end Go.Proofs.YtmdgpejedbkkdaaGreatDoor
