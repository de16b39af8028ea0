/- RefEnv8 -/
import Derived.Test.YtgdejjkiiaodkaaGreatDoorPT30
set_option linter.unusedVariables false
set_option linter.unusedSimpArgs false
set_option maxRecDepth 100000
set_option maxHeartbeats 16000000
open Go.Lib (hid)
namespace Go.Proofs.YtgdejjkiiaodkaaGreatDoor
section
open Go.RowKit Go.Sort
open Nw V12 Q6
def LineR (l : L8) (k v : ByteArray) (b : Bool) : Prop :=
 match lineV l with
 | none => b = false
 | some none => k = ⟨#[]⟩ ∧ v = ⟨#[]⟩ ∧ b = true
 | some (some p) => k = ba p.1 ∧ v = ba p.2 ∧ b = true
def GivesLine (l : L8) (w : World) (e : Ending) (w' : World) : Prop := ∃ k v b, e = .returned (.tuple #[.agg #[.string k, .string v], .bool b]) ∧ LineR l k v b ∧ Below w.heap.size w w'
theorem line_blank {l t : L8} (h : trimS l = t) (ht : t = [] ∨ t.getD 0 0 = 35) : LineR l ⟨#[]⟩ ⟨#[]⟩ true := by
 have e : lineV l = some none := by
  unfold lineV
  simp only [h]
  rw [if_pos ht]
 unfold LineR
 rw [e]
 exact ⟨rfl, rfl, rfl⟩
theorem line_none {l t u : L8} (h : trimS l = t) (ht : ¬ (t = [] ∨ t.getD 0 0 = 35)) (hu : expS t = u) (hp : pairV u = none) (k v : ByteArray) : LineR l k v false := by
 have e : lineV l = none := by
  unfold lineV
  simp only [h]
  rw [if_neg ht, hu, hp]; rfl
 unfold LineR
 rw [e]
theorem line_some {l t u : L8} {p : KV} {k v : ByteArray} (h : trimS l = t) (ht : ¬ (t = [] ∨ t.getD 0 0 = 35)) (hu : expS t = u) (hp : pairV u = some p) (hk : k = ba p.1) (hv : v = ba p.2) : LineR l k v true := by
 have e : lineV l = some (some p) := by
  unfold lineV
  simp only [h]
  rw [if_neg ht, hu, hp]; rfl
 unfold LineR
 rw [e]
 exact ⟨hk, hv, rfl⟩
theorem pair_bad {u : L8} {n : Nat} (hn : befN 61 u = n) (h : n = u.length ∨ isV (u.take n) = false ∨ (n + 1 < u.length ∧ u.getD (n + 1) 0 = 32)) : pairV u = none := by
 subst hn
 unfold pairV
 simp only []
 rw [if_pos h]
theorem pair_val {l t u x : L8} {n : Nat} {k : ByteArray} (h : trimS l = t) (ht : ¬ (t = [] ∨ t.getD 0 0 = 35)) (hu : expS t = u) (hn : befN 61 u = n)
  (hno : ¬ (n = u.length ∨ isV (u.take n) = false ∨ (n + 1 < u.length ∧ u.getD (n + 1) 0 = 32))) (hk : k = ba (u.take n)) (hx : u.drop (n + 1) = x) : LineR l k (valQ x) (valB x) := by
 have hp : pairV u = (valV x).map fun v => (u.take n, v) := by
  subst hn; subst hx
  unfold pairV
  simp only []
  rw [if_neg hno]
 cases hv : valV x with
 | none =>
  rw [hv] at hp
  have e : valB x = false := by unfold valB; rw [hv]; rfl
  rw [e]
  exact line_none h ht hu hp _ _
 | some y =>
  rw [hv] at hp
  have e : valB x = true := by unfold valB; rw [hv]; rfl
  rw [e]
  exact line_some h ht hu hp hk (by unfold valQ; rw [hv]; rfl)
theorem trim_len (l : L8) : (trimS l).length ≤ l.length := by
 unfold trimS dropE dropB
 rw [List.length_reverse]
 refine Nat.le_trans (List.Sublist.length_le (List.dropWhile_sublist _)) ?_
 rw [List.length_reverse]
 exact List.Sublist.length_le (List.dropWhile_sublist _)
theorem ba_arr (s : ByteArray) (l : L8) (h : s.data.toList = l) : s = ba l := by rw [← h, ba_of]
theorem bcell12 {W w1 : World} (hb : Below W.heap.size W w1) : (∀ b o, b < W.heap.size → w1.cell? ⟨b, o, none⟩ = W.cell? ⟨b, o, none⟩) ∧ (∀ b o, b < W.heap.size → w1.frozen? ⟨b, o, none⟩ = W.frozen? ⟨b, o, none⟩) :=
 ⟨fun b o h => hb.cell (p := ⟨b, o, none⟩) h, fun b o h => hb.frozen (p := ⟨b, o, none⟩) h⟩
theorem RLine_any (s : ByteArray) (w : World) (hs : s.size ≤ 100000) :
  Calls Tryz.prog 31 #[.string s] w (GivesLine s.data.toList w) := by
 obtain ⟨t, ht⟩ : ∃ t : ByteArray, trimS s.data.toList = t.data.toList := ⟨⟨(trimS s.data.toList).toArray⟩, toList_arr.symm⟩
 have HT := hid (fun w0 => RTrim_any s t w0 (by omega) ht)
 have hts : t.size ≤ 100000 := by have := trim_len s.data.toList; rw [ht, len_eq, len_eq] at this; omega
 have HTT := hid ht
 have HLEN := hid (len_eq t)
 clear ht
 by_cases h0 : t.data.toList = []
 ·have HL := hid (line_blank HTT.out (.inl h0))
  obtain rfl := bytes_of (l := #[]) h0
  clear h0 HLEN
  go_enter Tryz.func31, Tryz.ntmps31
  go_wp2_with (go_at_call 55; with_reducible refine (HT.out _).mono ?_; rintro e2 w2 ⟨rfl, rfl⟩)
  exact bodyPost_ret (v := .tuple #[.agg #[.string ⟨#[]⟩, .string ⟨#[]⟩], .bool true]) (by simp [results, Tryz.results31, go_sem]) rfl ⟨_, _, _, rfl, HL.out, (Below.refl _ _).alloc (Nat.le_refl _) _⟩
 have hpos : 0 < t.size := by rw [← len_eq]; exact List.length_pos_iff.2 h0
 obtain ⟨c, hc⟩ : ∃ c, t[0]'hpos = c := ⟨_, rfl⟩
 have hcl : t.data.toList.getD 0 0 = c := by rw [← hc]; exact getd t 0 hpos
 have nz : ((t.size : Int) == 0) = false := beq_eq_false_iff_ne.2 (by omega)
 have hpz : (0 : Int) < (t.size : Int) := by omega
 by_cases hc35 : c = 35
 ·have HL := hid (line_blank HTT.out (.inr (by rw [hcl]; exact hc35)))
  have m35 : ((c.toNat : Int) == 35) = true := bq c 35 true (by rw [hc35]; decide)
  clear h0 hcl hc35
  go_enter Tryz.func31, Tryz.ntmps31
  go_wp2_with (go_at_call 55; with_reducible refine (HT.out _).mono ?_; rintro e2 w2 ⟨rfl, rfl⟩)
  exact bodyPost_ret (v := .tuple #[.agg #[.string ⟨#[]⟩, .string ⟨#[]⟩], .bool true]) (by simp [results, Tryz.results31, go_sem]) rfl ⟨_, _, _, rfl, HL.out, (Below.refl _ _).alloc (Nat.le_refl _) _⟩
 have HNB : Hid (¬ (t.data.toList = [] ∨ t.data.toList.getD 0 0 = 35)) := hid (by
  rintro (e | e)
  ·exact h0 e
  ·rw [hcl] at e; exact hc35 e)
 have m35 : ((c.toNat : Int) == 35) = false := bq c 35 false (decide_eq_false fun e => hc35 ((nat_of c 35).2 e))
 clear h0 hcl hc35
 obtain ⟨p7, hp7⟩ : ∃ p, t.extract 0 7 = p := ⟨_, rfl⟩
 by_cases h7 : 7 < t.size
 ·have h7z : (7 : Int) < (t.size : Int) := by omega
  have h7z' : (7 : Int) ≤ (t.size : Int) := by omega
  have h7n : 7 ≤ t.size := by omega
  by_cases he : p7.data.toList = expL
  ·have e7 : (p7.toList == [101, 120, 112, 111, 114, 116, 32]) = true := by rw [ByteArray.toList_eq, he]; rfl
   obtain ⟨x, hx⟩ : ∃ x, t.extract 7 t.size = x := ⟨_, rfl⟩
   obtain ⟨u, hu⟩ : ∃ u : ByteArray, trimS x.data.toList = u.data.toList := ⟨⟨(trimS x.data.toList).toArray⟩, toList_arr.symm⟩
   have hxs : x.size ≤ 1000000 := by rw [← hx, ByteArray.size_extract]; omega
   have HX := hid (fun w0 => RTrim_any x u w0 hxs hu)
   have HEXP : Hid (expS t.data.toList = u.data.toList) := hid (by
    unfold expS
    rw [if_pos ⟨by rw [HLEN.out]; exact h7, by rw [← upto12, hp7]; exact he⟩, ← hu, ← hx, from12])
   have hus : u.size ≤ 100000 := by
    have h1 := trim_len x.data.toList
    rw [hu, len_eq, len_eq] at h1
    have h2 : x.size ≤ t.size := by rw [← hx, ByteArray.size_extract]; omega
    omega
   clear he hu
   obtain ⟨n, hn⟩ : ∃ n, befN 61 u.data.toList = n := ⟨_, rfl⟩
   have HN := hid hn
   have HLU := hid (len_eq u)
   have hnu : n ≤ u.size := by rw [← hn, ← len_eq]; exact befN_le _ _
   obtain ⟨kk, hkk⟩ : ∃ kk, u.extract 0 n = kk := ⟨_, rfl⟩
   have hks : kk.size ≤ maxLen := by unfold maxLen; rw [← hkk, ByteArray.size_extract]; omega
   have HKD : Hid (kk.data.toList = u.data.toList.take n) := hid (by rw [← hkk, upto12])
   obtain ⟨bv, hbv⟩ : ∃ bv, isV kk.data.toList = bv := ⟨_, rfl⟩
   have HC : Hid (∀ w0 : World, Calls Tryz.prog 32 #[.string kk] w0 fun e w' => e = .returned (.bool bv) ∧ w0 = w') := hid (fun w0 => by rw [← hbv]; exact RVariable_any kk w0 hks)
   have HBV := hid hbv
   obtain ⟨x1, hx1⟩ : ∃ x1, u.extract (n + 1) u.size = x1 := ⟨_, rfl⟩
   have hx1s : x1.size ≤ 100000 := by rw [← hx1, ByteArray.size_extract]; omega
   obtain ⟨vq, hvq⟩ : ∃ vq, valQ x1.data.toList = vq := ⟨_, rfl⟩
   obtain ⟨vb, hvb⟩ : ∃ vb, valB x1.data.toList = vb := ⟨_, rfl⟩
   have HV := hid (fun w0 => RValue_any x1 w0 hx1s vq vb hvq hvb)
   have HX1 : Hid (x1.data.toList = u.data.toList.drop (n + 1) ∧ valQ x1.data.toList = vq ∧ valB x1.data.toList = vb) := hid ⟨by rw [← hx1, from12], hvq, hvb⟩
   clear hn hbv hvq hvb hks
   go_enter Tryz.func31, Tryz.ntmps31
   go_wp2_with first
    | (go_at_call 55; with_reducible refine (HT.out _).mono ?_; rintro e2 w2 ⟨rfl, rfl⟩)
    | (go_at_call 55; with_reducible refine (HX.out _).mono ?_; rintro e2 w3 ⟨rfl, rfl⟩)
   go_loop [4] (fun t4 => ∃ j : Nat, j ≤ n ∧ t4 = .int .i64 (j : Int)) (fun t4 => n - (intOf t4).toNat)
   case atStart => exact ⟨0, Nat.zero_le _, rfl⟩
   case round =>
    obtain ⟨j, hj, rfl⟩ := hrel
    by_cases hlt : j < n
    ·have hjs : j < u.size := by omega
     have hjz : (j : Int) < (u.size : Int) := by omega
     obtain ⟨d, hd⟩ : ∃ d, u[j]'hjs = d := ⟨_, rfl⟩
     have hne : d ≠ 61 := by rw [← hd, ← getd u j hjs]; exact (befN_lt (by rw [HN.out]; exact hlt)).2
     have m61 : ((d.toNat : Int) != 61) = true := bnq d 61 true (decide_eq_true fun e => hne ((nat_of d 61).2 e))
     clear hne
     go_wp2
     go_round
     case rel => exact ⟨j + 1, by omega, by go_num⟩
     case measure => simp [intOf]; omega
    ·obtain rfl : j = n := by omega
     clear hlt hj
     by_cases hend : j = u.size
     ·have HL := hid (fun k v => line_none HTT.out HNB.out HEXP.out (pair_bad HN.out (.inl (by rw [HLU.out]; exact hend))) k v)
      have heq : ((j : Int) == (u.size : Int)) = true := beq_iff_eq.2 (by omega)
      have hjz : ¬ (j : Int) < (u.size : Int) := by omega
      clear hend
      go_wp2
      exact bodyPost_ret (v := .tuple #[.agg #[.string ⟨#[]⟩, .string ⟨#[]⟩], .bool false]) (by simp [results, Tryz.results31, go_sem]) rfl ⟨_, _, _, rfl, HL.out _ _, (Below.refl _ _).alloc (Nat.le_refl _) _⟩
     ·have heq : ((j : Int) == (u.size : Int)) = false := beq_eq_false_iff_ne.2 (by omega)
      have hjs : j < u.size := by omega
      have hjz : (j : Int) < (u.size : Int) := by omega
      have hjz' : (j : Int) ≤ (u.size : Int) := by omega
      have hj1 : (j : Int) + 1 ≤ (u.size : Int) := by omega
      have hj1n : j + 1 ≤ u.size := by omega
      have e1 : (0 : Int) ≤ (j : Int) + 1 := by omega
      have e2 : ((j : Int) + 1).toNat = j + 1 := by omega
      obtain ⟨d, hd⟩ : ∃ d, u[j]'hjs = d := ⟨_, rfl⟩
      have h61 : d = 61 := by
       have := befN_at (b := 61) (l := u.data.toList) (by rw [HN.out, HLU.out]; exact hjs)
       rw [HN.out, getd u j hjs, hd] at this; exact this
      have m61 : ((d.toNat : Int) != 61) = false := bnq d 61 false (by rw [h61]; decide)
      clear h61 hend
      cases bv with
      | false =>
       have HL := hid (fun k v => line_none HTT.out HNB.out HEXP.out (pair_bad HN.out (.inr (.inl (by rw [← HKD.out]; exact HBV.out)))) k v)
       go_wp2_with (go_at_call 32; refine (HC.out _).mono ?_; rintro e w2 ⟨rfl, rfl⟩)
       exact bodyPost_ret (v := .tuple #[.agg #[.string ⟨#[]⟩, .string ⟨#[]⟩], .bool false]) (by simp [results, Tryz.results31, go_sem]) rfl ⟨_, _, _, rfl, HL.out _ _, (Below.refl _ _).alloc (Nat.le_refl _) _⟩
      | true =>
       by_cases hsp : j + 1 < u.size
       ·have hspz : (j : Int) + 1 < (u.size : Int) := by omega
        have hspd : decide ((j : Int) + 1 < (u.size : Int)) = true := decide_eq_true hspz
        obtain ⟨g, hg⟩ : ∃ g, u[j + 1]'hsp = g := ⟨_, rfl⟩
        have hgl : u.data.toList.getD (j + 1) 0 = g := by rw [← hg]; exact getd u (j + 1) hsp
        by_cases hg32 : g = 32
        ·have m32 : ((g.toNat : Int) == 32) = true := bq g 32 true (by rw [hg32]; decide)
         have HL := hid (fun k v => line_none HTT.out HNB.out HEXP.out (pair_bad HN.out (.inr (.inr ⟨by rw [HLU.out]; exact hsp, by rw [hgl]; exact hg32⟩))) k v)
         clear hgl hg32
         go_wp2_with (go_at_call 32; refine (HC.out _).mono ?_; rintro e w2 ⟨rfl, rfl⟩)
         exact bodyPost_ret (v := .tuple #[.agg #[.string ⟨#[]⟩, .string ⟨#[]⟩], .bool false]) (by simp [results, Tryz.results31, go_sem]) rfl ⟨_, _, _, rfl, HL.out _ _, (Below.refl _ _).alloc (Nat.le_refl _) _⟩
        ·have m32 : ((g.toNat : Int) == 32) = false := bq g 32 false (decide_eq_false fun e => hg32 ((nat_of g 32).2 e))
         have HL : Hid (LineR s.data.toList kk vq vb) := hid (by
          rw [← HX1.out.2.1, ← HX1.out.2.2]
          refine pair_val HTT.out HNB.out HEXP.out HN.out ?_ (ba_arr _ _ HKD.out) HX1.out.1.symm
          rintro (e | e | ⟨_, e⟩)
          ·rw [HLU.out] at e; omega
          ·rw [← HKD.out, HBV.out] at e; cases e
          ·rw [hgl] at e; exact hg32 e)
         clear hgl hg32
         go_wp2_with first
          | (go_at_call 32; refine (HC.out _).mono ?_; rintro e w2 ⟨rfl, rfl⟩)
          | (go_at_call 56; refine (HV.out _).mono ?_; rintro e w4 ⟨rfl, hb4⟩; obtain ⟨hcb, hfb⟩ := bcell12 hb4)
         exact bodyPost_ret (v := .tuple #[.agg #[.string kk, .string vq], .bool vb]) (by simp [results, Tryz.results31, go_sem, hcb]) rfl ⟨_, _, _, rfl, HL.out, ((((Below.refl _ _).alloc (Nat.le_refl _) _).trans (hb4.mono (by simp))).setCell (by simp) _).setCell (by simp) _⟩
       ·have hspz : ¬ (j : Int) + 1 < (u.size : Int) := by omega
        have hspd : decide ((j : Int) + 1 < (u.size : Int)) = false := decide_eq_false hspz
        have HL : Hid (LineR s.data.toList kk vq vb) := hid (by
         rw [← HX1.out.2.1, ← HX1.out.2.2]
         refine pair_val HTT.out HNB.out HEXP.out HN.out ?_ (ba_arr _ _ HKD.out) HX1.out.1.symm
         rintro (e | e | ⟨e, _⟩)
         ·rw [HLU.out] at e; omega
         ·rw [← HKD.out, HBV.out] at e; cases e
         ·rw [HLU.out] at e; exact hsp e)
        go_wp2_with first
         | (go_at_call 32; refine (HC.out _).mono ?_; rintro e w2 ⟨rfl, rfl⟩)
         | (go_at_call 56; refine (HV.out _).mono ?_; rintro e w4 ⟨rfl, hb4⟩; obtain ⟨hcb, hfb⟩ := bcell12 hb4)
        exact bodyPost_ret (v := .tuple #[.agg #[.string kk, .string vq], .bool vb]) (by simp [results, Tryz.results31, go_sem, hcb]) rfl ⟨_, _, _, rfl, HL.out, ((((Below.refl _ _).alloc (Nat.le_refl _) _).trans (hb4.mono (by simp))).setCell (by simp) _).setCell (by simp) _⟩
  ·have e7 : (p7.toList == [101, 120, 112, 111, 114, 116, 32]) = false := by rw [ByteArray.toList_eq]; exact beq_eq_false_iff_ne.2 he
   obtain ⟨u, hu0⟩ : ∃ u, u = t := ⟨_, rfl⟩
   have HEXP : Hid (expS t.data.toList = u.data.toList) := hid (by
    unfold expS
    rw [if_neg (fun e => he (by rw [← hp7, upto12]; exact e.2)), hu0])
   have hus : u.size ≤ 100000 := by rw [hu0]; exact hts
   clear he
   subst hu0
   obtain ⟨n, hn⟩ : ∃ n, befN 61 u.data.toList = n := ⟨_, rfl⟩
   have HN := hid hn
   have HLU := hid (len_eq u)
   have hnu : n ≤ u.size := by rw [← hn, ← len_eq]; exact befN_le _ _
   obtain ⟨kk, hkk⟩ : ∃ kk, u.extract 0 n = kk := ⟨_, rfl⟩
   have hks : kk.size ≤ maxLen := by unfold maxLen; rw [← hkk, ByteArray.size_extract]; omega
   have HKD : Hid (kk.data.toList = u.data.toList.take n) := hid (by rw [← hkk, upto12])
   obtain ⟨bv, hbv⟩ : ∃ bv, isV kk.data.toList = bv := ⟨_, rfl⟩
   have HC : Hid (∀ w0 : World, Calls Tryz.prog 32 #[.string kk] w0 fun e w' => e = .returned (.bool bv) ∧ w0 = w') := hid (fun w0 => by rw [← hbv]; exact RVariable_any kk w0 hks)
   have HBV := hid hbv
   obtain ⟨x1, hx1⟩ : ∃ x1, u.extract (n + 1) u.size = x1 := ⟨_, rfl⟩
   have hx1s : x1.size ≤ 100000 := by rw [← hx1, ByteArray.size_extract]; omega
   obtain ⟨vq, hvq⟩ : ∃ vq, valQ x1.data.toList = vq := ⟨_, rfl⟩
   obtain ⟨vb, hvb⟩ : ∃ vb, valB x1.data.toList = vb := ⟨_, rfl⟩
   have HV := hid (fun w0 => RValue_any x1 w0 hx1s vq vb hvq hvb)
   have HX1 : Hid (x1.data.toList = u.data.toList.drop (n + 1) ∧ valQ x1.data.toList = vq ∧ valB x1.data.toList = vb) := hid ⟨by rw [← hx1, from12], hvq, hvb⟩
   clear hn hbv hvq hvb hks
   go_enter Tryz.func31, Tryz.ntmps31
   go_wp2_with first
    | (go_at_call 55; with_reducible refine (HT.out _).mono ?_; rintro e2 w2 ⟨rfl, rfl⟩)
   go_loop [4] (fun t4 => ∃ j : Nat, j ≤ n ∧ t4 = .int .i64 (j : Int)) (fun t4 => n - (intOf t4).toNat)
   case atStart => exact ⟨0, Nat.zero_le _, rfl⟩
   case round =>
    obtain ⟨j, hj, rfl⟩ := hrel
    by_cases hlt : j < n
    ·have hjs : j < u.size := by omega
     have hjz : (j : Int) < (u.size : Int) := by omega
     obtain ⟨d, hd⟩ : ∃ d, u[j]'hjs = d := ⟨_, rfl⟩
     have hne : d ≠ 61 := by rw [← hd, ← getd u j hjs]; exact (befN_lt (by rw [HN.out]; exact hlt)).2
     have m61 : ((d.toNat : Int) != 61) = true := bnq d 61 true (decide_eq_true fun e => hne ((nat_of d 61).2 e))
     clear hne
     go_wp2
     go_round
     case rel => exact ⟨j + 1, by omega, by go_num⟩
     case measure => simp [intOf]; omega
    ·obtain rfl : j = n := by omega
     clear hlt hj
     by_cases hend : j = u.size
     ·have HL := hid (fun k v => line_none HTT.out HNB.out HEXP.out (pair_bad HN.out (.inl (by rw [HLU.out]; exact hend))) k v)
      have heq : ((j : Int) == (u.size : Int)) = true := beq_iff_eq.2 (by omega)
      have hjz : ¬ (j : Int) < (u.size : Int) := by omega
      clear hend
      go_wp2
      exact bodyPost_ret (v := .tuple #[.agg #[.string ⟨#[]⟩, .string ⟨#[]⟩], .bool false]) (by simp [results, Tryz.results31, go_sem]) rfl ⟨_, _, _, rfl, HL.out _ _, (Below.refl _ _).alloc (Nat.le_refl _) _⟩
     ·have heq : ((j : Int) == (u.size : Int)) = false := beq_eq_false_iff_ne.2 (by omega)
      have hjs : j < u.size := by omega
      have hjz : (j : Int) < (u.size : Int) := by omega
      have hjz' : (j : Int) ≤ (u.size : Int) := by omega
      have hj1 : (j : Int) + 1 ≤ (u.size : Int) := by omega
      have hj1n : j + 1 ≤ u.size := by omega
      have e1 : (0 : Int) ≤ (j : Int) + 1 := by omega
      have e2 : ((j : Int) + 1).toNat = j + 1 := by omega
      obtain ⟨d, hd⟩ : ∃ d, u[j]'hjs = d := ⟨_, rfl⟩
      have h61 : d = 61 := by
       have := befN_at (b := 61) (l := u.data.toList) (by rw [HN.out, HLU.out]; exact hjs)
       rw [HN.out, getd u j hjs, hd] at this; exact this
      have m61 : ((d.toNat : Int) != 61) = false := bnq d 61 false (by rw [h61]; decide)
      clear h61 hend
      cases bv with
      | false =>
       have HL := hid (fun k v => line_none HTT.out HNB.out HEXP.out (pair_bad HN.out (.inr (.inl (by rw [← HKD.out]; exact HBV.out)))) k v)
       go_wp2_with (go_at_call 32; refine (HC.out _).mono ?_; rintro e w2 ⟨rfl, rfl⟩)
       exact bodyPost_ret (v := .tuple #[.agg #[.string ⟨#[]⟩, .string ⟨#[]⟩], .bool false]) (by simp [results, Tryz.results31, go_sem]) rfl ⟨_, _, _, rfl, HL.out _ _, (Below.refl _ _).alloc (Nat.le_refl _) _⟩
      | true =>
       by_cases hsp : j + 1 < u.size
       ·have hspz : (j : Int) + 1 < (u.size : Int) := by omega
        have hspd : decide ((j : Int) + 1 < (u.size : Int)) = true := decide_eq_true hspz
        obtain ⟨g, hg⟩ : ∃ g, u[j + 1]'hsp = g := ⟨_, rfl⟩
        have hgl : u.data.toList.getD (j + 1) 0 = g := by rw [← hg]; exact getd u (j + 1) hsp
        by_cases hg32 : g = 32
        ·have m32 : ((g.toNat : Int) == 32) = true := bq g 32 true (by rw [hg32]; decide)
         have HL := hid (fun k v => line_none HTT.out HNB.out HEXP.out (pair_bad HN.out (.inr (.inr ⟨by rw [HLU.out]; exact hsp, by rw [hgl]; exact hg32⟩))) k v)
         clear hgl hg32
         go_wp2_with (go_at_call 32; refine (HC.out _).mono ?_; rintro e w2 ⟨rfl, rfl⟩)
         exact bodyPost_ret (v := .tuple #[.agg #[.string ⟨#[]⟩, .string ⟨#[]⟩], .bool false]) (by simp [results, Tryz.results31, go_sem]) rfl ⟨_, _, _, rfl, HL.out _ _, (Below.refl _ _).alloc (Nat.le_refl _) _⟩
        ·have m32 : ((g.toNat : Int) == 32) = false := bq g 32 false (decide_eq_false fun e => hg32 ((nat_of g 32).2 e))
         have HL : Hid (LineR s.data.toList kk vq vb) := hid (by
          rw [← HX1.out.2.1, ← HX1.out.2.2]
          refine pair_val HTT.out HNB.out HEXP.out HN.out ?_ (ba_arr _ _ HKD.out) HX1.out.1.symm
          rintro (e | e | ⟨_, e⟩)
          ·rw [HLU.out] at e; omega
          ·rw [← HKD.out, HBV.out] at e; cases e
          ·rw [hgl] at e; exact hg32 e)
         clear hgl hg32
         go_wp2_with first
          | (go_at_call 32; refine (HC.out _).mono ?_; rintro e w2 ⟨rfl, rfl⟩)
          | (go_at_call 56; refine (HV.out _).mono ?_; rintro e w4 ⟨rfl, hb4⟩; obtain ⟨hcb, hfb⟩ := bcell12 hb4)
         exact bodyPost_ret (v := .tuple #[.agg #[.string kk, .string vq], .bool vb]) (by simp [results, Tryz.results31, go_sem, hcb]) rfl ⟨_, _, _, rfl, HL.out, ((((Below.refl _ _).alloc (Nat.le_refl _) _).trans (hb4.mono (by simp))).setCell (by simp) _).setCell (by simp) _⟩
       ·have hspz : ¬ (j : Int) + 1 < (u.size : Int) := by omega
        have hspd : decide ((j : Int) + 1 < (u.size : Int)) = false := decide_eq_false hspz
        have HL : Hid (LineR s.data.toList kk vq vb) := hid (by
         rw [← HX1.out.2.1, ← HX1.out.2.2]
         refine pair_val HTT.out HNB.out HEXP.out HN.out ?_ (ba_arr _ _ HKD.out) HX1.out.1.symm
         rintro (e | e | ⟨e, _⟩)
         ·rw [HLU.out] at e; omega
         ·rw [← HKD.out, HBV.out] at e; cases e
         ·rw [HLU.out] at e; exact hsp e)
        go_wp2_with first
         | (go_at_call 32; refine (HC.out _).mono ?_; rintro e w2 ⟨rfl, rfl⟩)
         | (go_at_call 56; refine (HV.out _).mono ?_; rintro e w4 ⟨rfl, hb4⟩; obtain ⟨hcb, hfb⟩ := bcell12 hb4)
        exact bodyPost_ret (v := .tuple #[.agg #[.string kk, .string vq], .bool vb]) (by simp [results, Tryz.results31, go_sem, hcb]) rfl ⟨_, _, _, rfl, HL.out, ((((Below.refl _ _).alloc (Nat.le_refl _) _).trans (hb4.mono (by simp))).setCell (by simp) _).setCell (by simp) _⟩
 ·have h7z : ¬ (7 : Int) < (t.size : Int) := by omega
  have h7d : decide ((7 : Int) < (t.size : Int)) = false := decide_eq_false h7z
  obtain ⟨u, hu0⟩ : ∃ u, u = t := ⟨_, rfl⟩
  have HEXP : Hid (expS t.data.toList = u.data.toList) := hid (by
   unfold expS
   rw [if_neg (fun e => h7 (by rw [← HLEN.out]; exact e.1)), hu0])
  have hus : u.size ≤ 100000 := by rw [hu0]; exact hts
  subst hu0
  obtain ⟨n, hn⟩ : ∃ n, befN 61 u.data.toList = n := ⟨_, rfl⟩
  have HN := hid hn
  have HLU := hid (len_eq u)
  have hnu : n ≤ u.size := by rw [← hn, ← len_eq]; exact befN_le _ _
  obtain ⟨kk, hkk⟩ : ∃ kk, u.extract 0 n = kk := ⟨_, rfl⟩
  have hks : kk.size ≤ maxLen := by unfold maxLen; rw [← hkk, ByteArray.size_extract]; omega
  have HKD : Hid (kk.data.toList = u.data.toList.take n) := hid (by rw [← hkk, upto12])
  obtain ⟨bv, hbv⟩ : ∃ bv, isV kk.data.toList = bv := ⟨_, rfl⟩
  have HC : Hid (∀ w0 : World, Calls Tryz.prog 32 #[.string kk] w0 fun e w' => e = .returned (.bool bv) ∧ w0 = w') := hid (fun w0 => by rw [← hbv]; exact RVariable_any kk w0 hks)
  have HBV := hid hbv
  obtain ⟨x1, hx1⟩ : ∃ x1, u.extract (n + 1) u.size = x1 := ⟨_, rfl⟩
  have hx1s : x1.size ≤ 100000 := by rw [← hx1, ByteArray.size_extract]; omega
  obtain ⟨vq, hvq⟩ : ∃ vq, valQ x1.data.toList = vq := ⟨_, rfl⟩
  obtain ⟨vb, hvb⟩ : ∃ vb, valB x1.data.toList = vb := ⟨_, rfl⟩
  have HV := hid (fun w0 => RValue_any x1 w0 hx1s vq vb hvq hvb)
  have HX1 : Hid (x1.data.toList = u.data.toList.drop (n + 1) ∧ valQ x1.data.toList = vq ∧ valB x1.data.toList = vb) := hid ⟨by rw [← hx1, from12], hvq, hvb⟩
  clear hn hbv hvq hvb hks
  go_enter Tryz.func31, Tryz.ntmps31
  go_wp2_with first
   | (go_at_call 55; with_reducible refine (HT.out _).mono ?_; rintro e2 w2 ⟨rfl, rfl⟩)
  go_loop [4] (fun t4 => ∃ j : Nat, j ≤ n ∧ t4 = .int .i64 (j : Int)) (fun t4 => n - (intOf t4).toNat)
  case atStart => exact ⟨0, Nat.zero_le _, rfl⟩
  case round =>
   obtain ⟨j, hj, rfl⟩ := hrel
   by_cases hlt : j < n
   ·have hjs : j < u.size := by omega
    have hjz : (j : Int) < (u.size : Int) := by omega
    obtain ⟨d, hd⟩ : ∃ d, u[j]'hjs = d := ⟨_, rfl⟩
    have hne : d ≠ 61 := by rw [← hd, ← getd u j hjs]; exact (befN_lt (by rw [HN.out]; exact hlt)).2
    have m61 : ((d.toNat : Int) != 61) = true := bnq d 61 true (decide_eq_true fun e => hne ((nat_of d 61).2 e))
    clear hne
    go_wp2
    go_round
    case rel => exact ⟨j + 1, by omega, by go_num⟩
    case measure => simp [intOf]; omega
   ·obtain rfl : j = n := by omega
    clear hlt hj
    by_cases hend : j = u.size
    ·have HL := hid (fun k v => line_none HTT.out HNB.out HEXP.out (pair_bad HN.out (.inl (by rw [HLU.out]; exact hend))) k v)
     have heq : ((j : Int) == (u.size : Int)) = true := beq_iff_eq.2 (by omega)
     have hjz : ¬ (j : Int) < (u.size : Int) := by omega
     clear hend
     go_wp2
     exact bodyPost_ret (v := .tuple #[.agg #[.string ⟨#[]⟩, .string ⟨#[]⟩], .bool false]) (by simp [results, Tryz.results31, go_sem]) rfl ⟨_, _, _, rfl, HL.out _ _, (Below.refl _ _).alloc (Nat.le_refl _) _⟩
    ·have heq : ((j : Int) == (u.size : Int)) = false := beq_eq_false_iff_ne.2 (by omega)
     have hjs : j < u.size := by omega
     have hjz : (j : Int) < (u.size : Int) := by omega
     have hjz' : (j : Int) ≤ (u.size : Int) := by omega
     have hj1 : (j : Int) + 1 ≤ (u.size : Int) := by omega
     have hj1n : j + 1 ≤ u.size := by omega
     have e1 : (0 : Int) ≤ (j : Int) + 1 := by omega
     have e2 : ((j : Int) + 1).toNat = j + 1 := by omega
     obtain ⟨d, hd⟩ : ∃ d, u[j]'hjs = d := ⟨_, rfl⟩
     have h61 : d = 61 := by
      have := befN_at (b := 61) (l := u.data.toList) (by rw [HN.out, HLU.out]; exact hjs)
      rw [HN.out, getd u j hjs, hd] at this; exact this
     have m61 : ((d.toNat : Int) != 61) = false := bnq d 61 false (by rw [h61]; decide)
     clear h61 hend
     cases bv with
     | false =>
      have HL := hid (fun k v => line_none HTT.out HNB.out HEXP.out (pair_bad HN.out (.inr (.inl (by rw [← HKD.out]; exact HBV.out)))) k v)
      go_wp2_with (go_at_call 32; refine (HC.out _).mono ?_; rintro e w2 ⟨rfl, rfl⟩)
      exact bodyPost_ret (v := .tuple #[.agg #[.string ⟨#[]⟩, .string ⟨#[]⟩], .bool false]) (by simp [results, Tryz.results31, go_sem]) rfl ⟨_, _, _, rfl, HL.out _ _, (Below.refl _ _).alloc (Nat.le_refl _) _⟩
     | true =>
      by_cases hsp : j + 1 < u.size
      ·have hspz : (j : Int) + 1 < (u.size : Int) := by omega
       have hspd : decide ((j : Int) + 1 < (u.size : Int)) = true := decide_eq_true hspz
       obtain ⟨g, hg⟩ : ∃ g, u[j + 1]'hsp = g := ⟨_, rfl⟩
       have hgl : u.data.toList.getD (j + 1) 0 = g := by rw [← hg]; exact getd u (j + 1) hsp
       by_cases hg32 : g = 32
       ·have m32 : ((g.toNat : Int) == 32) = true := bq g 32 true (by rw [hg32]; decide)
        have HL := hid (fun k v => line_none HTT.out HNB.out HEXP.out (pair_bad HN.out (.inr (.inr ⟨by rw [HLU.out]; exact hsp, by rw [hgl]; exact hg32⟩))) k v)
        clear hgl hg32
        go_wp2_with (go_at_call 32; refine (HC.out _).mono ?_; rintro e w2 ⟨rfl, rfl⟩)
        exact bodyPost_ret (v := .tuple #[.agg #[.string ⟨#[]⟩, .string ⟨#[]⟩], .bool false]) (by simp [results, Tryz.results31, go_sem]) rfl ⟨_, _, _, rfl, HL.out _ _, (Below.refl _ _).alloc (Nat.le_refl _) _⟩
       ·have m32 : ((g.toNat : Int) == 32) = false := bq g 32 false (decide_eq_false fun e => hg32 ((nat_of g 32).2 e))
        have HL : Hid (LineR s.data.toList kk vq vb) := hid (by
         rw [← HX1.out.2.1, ← HX1.out.2.2]
         refine pair_val HTT.out HNB.out HEXP.out HN.out ?_ (ba_arr _ _ HKD.out) HX1.out.1.symm
         rintro (e | e | ⟨_, e⟩)
         ·rw [HLU.out] at e; omega
         ·rw [← HKD.out, HBV.out] at e; cases e
         ·rw [hgl] at e; exact hg32 e)
        clear hgl hg32
        go_wp2_with first
         | (go_at_call 32; refine (HC.out _).mono ?_; rintro e w2 ⟨rfl, rfl⟩)
         | (go_at_call 56; refine (HV.out _).mono ?_; rintro e w4 ⟨rfl, hb4⟩; obtain ⟨hcb, hfb⟩ := bcell12 hb4)
        exact bodyPost_ret (v := .tuple #[.agg #[.string kk, .string vq], .bool vb]) (by simp [results, Tryz.results31, go_sem, hcb]) rfl ⟨_, _, _, rfl, HL.out, ((((Below.refl _ _).alloc (Nat.le_refl _) _).trans (hb4.mono (by simp))).setCell (by simp) _).setCell (by simp) _⟩
      ·have hspz : ¬ (j : Int) + 1 < (u.size : Int) := by omega
       have hspd : decide ((j : Int) + 1 < (u.size : Int)) = false := decide_eq_false hspz
       have HL : Hid (LineR s.data.toList kk vq vb) := hid (by
        rw [← HX1.out.2.1, ← HX1.out.2.2]
        refine pair_val HTT.out HNB.out HEXP.out HN.out ?_ (ba_arr _ _ HKD.out) HX1.out.1.symm
        rintro (e | e | ⟨e, _⟩)
        ·rw [HLU.out] at e; omega
        ·rw [← HKD.out, HBV.out] at e; cases e
        ·rw [HLU.out] at e; exact hsp e)
       go_wp2_with first
        | (go_at_call 32; refine (HC.out _).mono ?_; rintro e w2 ⟨rfl, rfl⟩)
        | (go_at_call 56; refine (HV.out _).mono ?_; rintro e w4 ⟨rfl, hb4⟩; obtain ⟨hcb, hfb⟩ := bcell12 hb4)
       exact bodyPost_ret (v := .tuple #[.agg #[.string kk, .string vq], .bool vb]) (by simp [results, Tryz.results31, go_sem, hcb]) rfl ⟨_, _, _, rfl, HL.out, ((((Below.refl _ _).alloc (Nat.le_refl _) _).trans (hb4.mono (by simp))).setCell (by simp) _).setCell (by simp) _⟩
end
end Go.Proofs.YtgdejjkiiaodkaaGreatDoor
