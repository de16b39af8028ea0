/- RefLone -/
import Derived.Test.YtecglpocmhkkiaaGreatDoorST18
import Derived.Test.YtecglpocmhkkiaaGreatDoorST43
import Derived.Test.YtecglpocmhkkiaaGreatDoorST9
set_option linter.unusedVariables false
set_option linter.unusedSimpArgs false
set_option maxRecDepth 100000
set_option maxHeartbeats 16000000
open Go.Lib (hid)
namespace Go.Proofs.YtecglpocmhkkiaaGreatDoor
section
open Go.RowKit Go.Sort
open Nw N8 Q6 F9 B10
def GivesLone (l : L8) (w : World) (e : Ending) (w' : World) : Prop := ∃ b, e = .returned (.bool b) ∧ w = w' ∧ (b = true → loneP l)
theorem lone_any (s : ByteArray) (w : World) (hs : s.size ≤ 100000) : Calls Tryz.prog 14 #[.string s] w (GivesLone s.data.toList w) := by
 obtain ⟨n, hn⟩ : ∃ n, s.size = n := ⟨_, rfl⟩
 have HLEN : Hid (s.data.toList.length = n) := hid ((len_eq s).trans hn)
 go_enter Tryz.func14, Tryz.ntmps14
 go_wp2
 go_loop [3] (fun si => ∃ j : Nat, j ≤ n ∧ si = .int .i64 (j : Int) ∧ Hid (∀ i, i < j → s.data.toList.getD i 0 = 45 → i + 1 < s.data.toList.length ∧ s.data.toList.getD (i + 1) 0 ≠ 32 ∧ s.data.toList.getD (i + 1) 0 ≠ 10)) (fun si => n - (intOf si).toNat)
 case atStart => exact ⟨0, Nat.zero_le _, rfl, hid (fun i h => absurd h (Nat.not_lt_zero _))⟩
 case round =>
  obtain ⟨j, hj, rfl, HA⟩ := hrel
  by_cases hlt : j < n
  ·have hjs : j < s.size := by omega
   have hjz : (j : Int) < (n : Int) := by omega
   have wj : IntKind.i64.wrap ((j : Int) + 1) = (j : Int) + 1 := IntWalk.i64_in _ (by omega)
   obtain ⟨c, hc⟩ : ∃ c, s[j]'hjs = c := ⟨_, rfl⟩
   have HC : Hid (s.data.toList.getD j 0 = c) := hid (by rw [getd s j hjs, hc])
   cases h45 : isC 45 c with
   | false =>
    have m45 := (isC_beq 45 c 45 rfl).trans h45
    have HX : Hid (∀ i, i < j + 1 → s.data.toList.getD i 0 = 45 → i + 1 < s.data.toList.length ∧ s.data.toList.getD (i + 1) 0 ≠ 32 ∧ s.data.toList.getD (i + 1) 0 ≠ 10) := hid (fun i hi h => by
     rcases Nat.lt_succ_iff_lt_or_eq.1 hi with h1 | h1
     ·exact HA.out i h1 h
     ·subst h1
      rw [HC.out] at h
      rw [isC_iff.2 h] at h45
      cases h45)
    clear h45
    go_wp2
    go_round
    case rel => exact ⟨j + 1, by omega, by go_num, HX⟩
    case measure => simp [intOf]; omega
   | true =>
    have m45 := (isC_beq 45 c 45 rfl).trans h45
    clear h45
    by_cases hl : j + 1 < n
    ·have hjs1 : j + 1 < s.size := by omega
     have pj : 0 ≤ (j : Int) + 1 := by omega
     have tj : ((j : Int) + 1).toNat = j + 1 := by omega
     have lj : (j : Int) + 1 < (n : Int) := by omega
     have ej : ((j : Int) + 1 == (n : Int)) = false := beq_eq_false_iff_ne.2 (by omega)
     obtain ⟨d, hd⟩ : ∃ d, s[j + 1]'hjs1 = d := ⟨_, rfl⟩
     have HD : Hid (s.data.toList.getD (j + 1) 0 = d) := hid (by rw [getd s (j + 1) hjs1, hd])
     cases h32 : isC 32 d with
     | true =>
      have m32 := (isC_beq 32 d 32 rfl).trans h32
      clear h32
      go_wp2
      go_ret
      exact ⟨_, rfl, rfl, fun h => by cases h⟩
     | false =>
      have m32 := (isC_beq 32 d 32 rfl).trans h32
      cases h10 : isC 10 d with
      | true =>
       have m10 := (isC_beq 10 d 10 rfl).trans h10
       clear h32 h10
       go_wp2
       go_ret
       exact ⟨_, rfl, rfl, fun h => by cases h⟩
      | false =>
       have m10 := (isC_beq 10 d 10 rfl).trans h10
       have HX : Hid (∀ i, i < j + 1 → s.data.toList.getD i 0 = 45 → i + 1 < s.data.toList.length ∧ s.data.toList.getD (i + 1) 0 ≠ 32 ∧ s.data.toList.getD (i + 1) 0 ≠ 10) := hid (fun i hi h => by
        rcases Nat.lt_succ_iff_lt_or_eq.1 hi with h1 | h1
        ·exact HA.out i h1 h
        ·subst h1
         rw [HD.out, HLEN.out]
         exact ⟨hl, (fun e => by rw [isC_iff.2 e] at h32; cases h32), (fun e => by rw [isC_iff.2 e] at h10; cases h10)⟩)
       clear h32 h10
       go_wp2
       go_round
       case rel => exact ⟨j + 1, by omega, by go_num, HX⟩
       case measure => simp [intOf]; omega
    ·have ej : ((j : Int) + 1 == (n : Int)) = true := by rw [beq_iff_eq]; omega
     clear hl
     go_wp2
     go_ret
     exact ⟨_, rfl, rfl, fun h => by cases h⟩
  ·obtain rfl : j = n := by omega
   clear hlt
   go_wp2
   go_ret
   refine ⟨_, rfl, rfl, fun _ i hi => ?_⟩
   rcases Nat.lt_or_ge i j with h | h
   ·exact HA.out i h hi
   ·rw [getD_out (by rw [HLEN.out]; exact h)] at hi
    cases hi
theorem three_u8 (a b c : Int) : ∀ u ∈ [Value.int .u8 a, Value.int .u8 b, Value.int .u8 c], u.oneCell' = true := by
 intro u hu
 simp only [List.mem_cons, List.not_mem_nil, or_false] at hu
 rcases hu with rfl | rfl | rfl <;> rfl
theorem own_nil1 (w : World) (e : TypeId) : (w.alloc (.cells #[] e)).ownsRow w.heap.size e 1 (.slice (some ⟨w.heap.size, 0, none⟩) 0 0) 0 [] := by
 refine ⟨rfl, .inr ⟨w.heap.size, 0, #[], rfl, Nat.le_refl _, ?_, Nat.zero_le _, Nat.zero_le _, rfl, rfl⟩⟩
 show (w.heap.push _)[w.heap.size]? = _
 simp
theorem sps_snoc (n : Nat) : sps (n + 1) = sps n ++ [32] := by unfold sps; rw [List.replicate_succ']
theorem app_len {L X R : L8} (h : L ++ X = R) : L.length ≤ R.length := by rw [← h, List.length_append]; omega
def SpB (w W : World) (v : Value) (L : L8) : Prop := W.ownsRow w.heap.size 5 1 v L.length (L.map encB) ∧ Below w.heap.size w W
theorem SpB.app {w W W2 : World} {v v' : Value} {L x : L8} {n : Nat} {YS : List Value} {o : Obj} (h : SpB w W v L) (hY : YS = L.map encB) (ho : W2.ownsRow w.heap.size 5 1 v' n (YS ++ x.map encB)) (hg : (W.alloc o).grownBy W2 v.ownBlock) : SpB w W2 v' (L ++ x) := by
 subst hY
 refine ⟨?_, (h.2.alloc h.2.size _).grown hg (by have := h.2.size; simp; omega) fun q hq => (h.1.lt q hq).1⟩
 have hn : (L ++ x).length = n := by
  have := ho.1
  rw [List.length_append, List.length_map, List.length_map] at this
  rw [List.length_append]
  omega
 rw [hn, List.map_append]
 exact ho
theorem spread_any (s : ByteArray) (t : Nat) (ht : t ≤ 3) (w : World) (hs : s.size ≤ 100000) (R : ByteArray) (hR : sprL t s.data.toList = R.data.toList) :
  Calls Tryz.prog 15 #[.string s, .int .i64 (t : Int)] w fun e w' => e = .returned (.string R) ∧ Below w.heap.size w w' := by
 obtain ⟨i0, hi, hz0, hz1, hz2⟩ := infoB
 obtain ⟨n, hn⟩ : ∃ n, s.size = n := ⟨_, rfl⟩
 have HLEN : Hid (s.data.toList.length = n) := hid ((len_eq s).trans hn)
 have HRL : Hid (R.data.toList.length ≤ 1000000) := hid (by
  have h := (spr_len t n s.data.toList (by rw [HLEN.out]; exact Nat.le_refl _)).1
  rw [hR, HLEN.out] at h
  have h2 : (t + 4) * n ≤ 7 * n := Nat.mul_le_mul_right _ (by omega)
  omega)
 have HR0 : Hid ([] ++ toC t true (s.data.toList.drop 0) = R.data.toList) := hid hR
 have HSB : Hid (SpB w (w.alloc (.cells #[] 5)) (.slice (some ⟨w.heap.size, 0, none⟩) 0 0) []) := hid ⟨own_nil1 w _, (Below.refl _ _).alloc (Nat.le_refl _) _⟩
 clear hR
 go_enter Tryz.func15, Tryz.ntmps15
 go_wp2
 go_loopw [5, 6, 7] (fun s5 s6 s7 wr => ∃ (j : Nat) (b : Bool) (L : L8), j ≤ n ∧ s6 = .bool b ∧ s7 = .int .i64 (j : Int) ∧ Hid (SpB w wr s5 L) ∧ Hid (L ++ toC t b (s.data.toList.drop j) = R.data.toList)) (fun _ _ s7 _ => n - (intOf s7).toNat)
 case atStart => exact ⟨0, true, [], Nat.zero_le _, rfl, rfl, HSB, HR0⟩
 case round =>
  clear HR0 HSB
  obtain ⟨j, b, L, hj, rfl, rfl, HSB, HX⟩ := hrel
  have hLl : L.length ≤ 1000000 := Nat.le_trans (app_len HX.out) HRL.out
  by_cases hlt : j < n
  ·have hjs : j < s.size := by omega
   have hjz : (j : Int) < (n : Int) := by omega
   have wj : IntKind.i64.wrap ((j : Int) + 1) = (j : Int) + 1 := IntWalk.i64_in _ (by omega)
   have hdr := drop_cons (l := s.data.toList) (k := j) (by rw [HLEN.out]; exact hlt)
   obtain ⟨c, hc⟩ : ∃ c, s[j]'hjs = c := ⟨_, rfl⟩
   rw [getd s j hjs, hc] at hdr
   have hws := HSB.out.2.size
   obtain ⟨YS, hYS⟩ : ∃ YS, YS = (L).map encB := ⟨_, rfl⟩
   obtain ⟨al, hal⟩ : ∃ al, (L).length = al := ⟨_, rfl⟩
   have HO : Hid (wr.ownsRow w.heap.size 5 1 u5 al YS) := hid (by rw [hYS, ← hal]; exact HSB.out.1)
   have HYS := hid hYS
   rw [hal] at hLl
   clear hYS hal
   cases b with
   | false =>
    have HX2 : Hid ((L ++ [c]) ++ toC t (isC 10 c) (s.data.toList.drop (j + 1)) = R.data.toList) := hid (by
     have h := HX.out
     rw [hdr] at h
     rw [List.append_assoc, ← h]
     show L ++ (c :: toC t (decide (c = 10)) _) = L ++ rstL t (c :: _)
     rw [toC_next])
    clear hdr HX
    cases h10 : isC 10 c with
    | true =>
     have m10 := (isC_beq 10 c 10 rfl).trans h10
     have HX3 := hid (h10 ▸ HX2.out)
     clear h10
     go_wp2_with (at_builtin; refine wpList_append_own _ rfl _ _ 58 rfl w.heap.size 5 i0 _ 1 1 Tryz.underlying58 hi hz0 hz1 hz2 rfl (by decide) _ _ _ rfl (HO.out.alloc _) ⟨wr.heap.size, 0, none⟩ 1 1 [.int .u8 (c.toNat : Int)] rfl rfl (cells_new wr _ _) (one_one _) (by unfold maxLen; omega) (by omega) (by simp; omega) ?_)
     intro v' w2 hown' hgrow hnil
     have HSB2 := hid (SpB.app (x := [c]) HSB.out HYS.out hown' hgrow)
     clear hown' hgrow hnil HO HSB
     go_wp2
     go_roundw
     case measure => simp [intOf]; omega
     case rel => exact ⟨j + 1, true, L ++ [c], by omega, rfl, by go_num, HSB2, HX3⟩
    | false =>
     have m10 := (isC_beq 10 c 10 rfl).trans h10
     have HX3 := hid (h10 ▸ HX2.out)
     clear h10
     go_wp2_with (at_builtin; refine wpList_append_own _ rfl _ _ 58 rfl w.heap.size 5 i0 _ 1 1 Tryz.underlying58 hi hz0 hz1 hz2 rfl (by decide) _ _ _ rfl (HO.out.alloc _) ⟨wr.heap.size, 0, none⟩ 1 1 [.int .u8 (c.toNat : Int)] rfl rfl (cells_new wr _ _) (one_one _) (by unfold maxLen; omega) (by omega) (by simp; omega) ?_)
     intro v' w2 hown' hgrow hnil
     have HSB2 := hid (SpB.app (x := [c]) HSB.out HYS.out hown' hgrow)
     clear hown' hgrow hnil HO HSB
     go_wp2
     go_roundw
     case measure => simp [intOf]; omega
     case rel => exact ⟨j + 1, false, L ++ [c], by omega, rfl, by go_num, HSB2, HX3⟩
   | true =>
    have hne : s.data.toList.drop j ≠ [] := by rw [hdr]; exact List.cons_ne_nil _ _
    obtain ⟨k, hk⟩ : ∃ k, indN (s.data.toList.drop j) = k := ⟨_, rfl⟩
    have hkn : j + k ≤ n := by
     have h := indN_le (s.data.toList.drop j)
     rw [List.length_drop, HLEN.out, hk] at h
     omega
    have HX2 : Hid ((L ++ [10, 35, 10]) ++ (sps (t * k) ++ rstL t (s.data.toList.drop (j + k))) = R.data.toList) := hid (by
     have h := HX.out
     have h2 := spr_two (t := t) hne
     rw [hk, List.drop_drop] at h2
     rw [← h, List.append_assoc]
     show L ++ _ = L ++ sprL t _
     rw [h2]
     rfl)
    have HSP : Hid (∀ q, q < k → s.data.toList.getD (j + q) 0 = 32) := hid (fun q hq => by
     have h := (indN_lt (l := s.data.toList.drop j) (k := q) (by rw [hk]; exact hq)).2
     rw [getD_drop] at h
     exact h)
    have HST : Hid (j + k < n → s.data.toList.getD (j + k) 0 ≠ 32) := hid (fun h => by
     have h2 := drop_indN (s.data.toList.drop j) (by rw [List.length_drop, HLEN.out, hk]; omega)
     rw [getD_drop, hk] at h2
     exact h2)
    clear hdr HX hne hk hc wj hjs
    go_wp2_with (at_builtin; refine wpList_append_own _ rfl _ _ 58 rfl w.heap.size 5 i0 _ 1 1 Tryz.underlying58 hi hz0 hz1 hz2 rfl (by decide) _ _ _ rfl (HO.out.alloc _) ⟨wr.heap.size, 0, none⟩ 3 3 [.int .u8 10, .int .u8 35, .int .u8 10] rfl rfl (cells_new wr _ _) (three_u8 _ _ _) (by unfold maxLen; omega) (by omega) (by simp; omega) ?_)
    intro v' w2 hown' hgrow hnil
    have HSB2 : Hid (SpB w w2 v' (L ++ [10, 35, 10])) := hid (SpB.app (x := [10, 35, 10]) HSB.out HYS.out hown' hgrow)
    have hL2 : (L ++ [10, 35, 10]).length ≤ 1000003 := by rw [List.length_append]; have h1 := congrArg List.length HYS.out; rw [List.length_map] at h1; have h2 := HO.out.1; show _ + 3 ≤ _; omega
    obtain ⟨L2, hLL2⟩ : ∃ L2, L ++ [10, 35, 10] = L2 := ⟨_, rfl⟩
    rw [hLL2] at HSB2 HX2 hL2
    clear hown' hgrow hnil HO HSB HYS hLL2 hws hLl hjz
    go_wp2
    obtain ⟨wo, hwo⟩ : ∃ wo, wo = w2 := ⟨_, rfl⟩
    subst hwo
    go_loopw [5, 7, 8] (fun s5 s7 s8 wr => ∃ q : Nat, q ≤ k ∧ s7 = .int .i64 ((j + q : Nat) : Int) ∧ Hid (SpB w wr s5 (L2 ++ sps (t * q)))) (fun _ s7 _ _ => j + k - (intOf s7).toNat)
    case atStart => exact ⟨0, Nat.zero_le _, rfl, hid (by rw [Nat.mul_zero]; show SpB w _ _ (L2 ++ []); rw [List.append_nil]; exact HSB2.out)⟩
    case round =>
     clear HSB2
     obtain ⟨q, hq, rfl, HSB⟩ := hrel
     obtain ⟨i, hi9⟩ : ∃ i, j + q = i := ⟨_, rfl⟩
     rw [hi9]
     by_cases hqk : q < k
     ·have his : i < s.size := by omega
      have hiz : (i : Int) < (n : Int) := by omega
      have wi : IntKind.i64.wrap ((i : Int) + 1) = (i : Int) + 1 := IntWalk.i64_in _ (by omega)
      obtain ⟨d, hd⟩ : ∃ d, s[i]'his = d := ⟨_, rfl⟩
      have m32 : ((d.toNat : Int) == 32) = true := byte_beq d 32 true (by
       have h := HSP.out q hqk
       rw [hi9, getd s i his, hd] at h
       rw [h]; decide)
      go_wp2
      obtain ⟨wo, hwo⟩ : ∃ wo, wo = wr := ⟨_, rfl⟩
      subst hwo
      go_loopw [5, 8] (fun s5 s8 wr => ∃ p : Nat, p ≤ t ∧ s8 = .int .i64 (p : Int) ∧ Hid (SpB w wr s5 (L2 ++ sps (t * q + p)))) (fun _ s8 _ => t - (intOf s8).toNat)
      case atStart => exact ⟨0, Nat.zero_le _, rfl, HSB⟩
      case round =>
       clear HSB
       obtain ⟨p, hp, rfl, HSB⟩ := hrel
       by_cases hpt : p < t
       ·have hpz : (p : Int) < (t : Int) := by omega
        have hLl : (L2 ++ sps (t * q + p)).length ≤ 5000000 := by
         rw [List.length_append]
         show _ + (List.replicate _ _).length ≤ _
         rw [List.length_replicate]
         have h1 : t * q ≤ 3 * q := Nat.mul_le_mul_right _ ht
         omega
        have hws := HSB.out.2.size
        obtain ⟨YS, hYS⟩ : ∃ YS, YS = (L2 ++ sps (t * q + p)).map encB := ⟨_, rfl⟩
        obtain ⟨al, hal⟩ : ∃ al, (L2 ++ sps (t * q + p)).length = al := ⟨_, rfl⟩
        have HO : Hid (wr.ownsRow w.heap.size 5 1 u5 al YS) := hid (by rw [hYS, ← hal]; exact HSB.out.1)
        have HYS := hid hYS
        rw [hal] at hLl
        clear hYS hal
        go_wp2_with (at_builtin; refine wpList_append_own _ rfl _ _ 58 rfl w.heap.size 5 i0 _ 1 1 Tryz.underlying58 hi hz0 hz1 hz2 rfl (by decide) _ _ _ rfl (HO.out.alloc _) ⟨wr.heap.size, 0, none⟩ 1 1 [.int .u8 32] rfl rfl (cells_new wr _ _) (one_one _) (by unfold maxLen; omega) (by omega) (by simp; omega) ?_)
        intro v' w2 hown' hgrow hnil
        have HSB2 : Hid (SpB w w2 v' (L2 ++ sps (t * q + (p + 1)))) := hid (by
         have h := SpB.app (x := [32]) HSB.out HYS.out hown' hgrow
         rw [List.append_assoc, ← sps_snoc] at h
         exact h)
        clear hown' hgrow hnil HO HSB HYS
        go_wp2
        go_roundw
        case measure => simp [intOf]; omega
        case rel => exact ⟨p + 1, by omega, by go_num, HSB2⟩
       ·obtain rfl : p = t := by omega
        have HSB2 : Hid (SpB w wr u5 (L2 ++ sps (p * (q + 1)))) := hid (by rw [Nat.mul_add, Nat.mul_one]; exact HSB.out)
        clear HSB hpt hp
        go_wp2
        go_roundw
        case measure => simp [intOf]; omega
        case rel => exact ⟨q + 1, by omega, by go_num, HSB2⟩
     ·obtain rfl : q = k := by omega
      clear hqk hq
      have hLl : (L2 ++ sps (t * q)).length ≤ 5000000 := by
       rw [List.length_append]
       show _ + (List.replicate _ _).length ≤ _
       rw [List.length_replicate]
       have h1 : t * q ≤ 3 * q := Nat.mul_le_mul_right _ ht
       omega
      by_cases hin : i < n
      ·have his : i < s.size := by omega
       have hiz : (i : Int) < (n : Int) := by omega
       have hie : ((i : Int) == (n : Int)) = false := beq_eq_false_iff_ne.2 (by omega)
       have wi : IntKind.i64.wrap ((i : Int) + 1) = (i : Int) + 1 := IntWalk.i64_in _ (by omega)
       obtain ⟨c, hc⟩ : ∃ c, s[i]'his = c := ⟨_, rfl⟩
       have m32 : ((c.toNat : Int) == 32) = false := byte_beq c 32 false (decide_eq_false (fun e => by
        have h := HST.out (by omega)
        rw [hi9, getd s i his, hc] at h
        exact h (UInt8.toNat_inj.1 e)))
       have hdr := drop_cons (l := s.data.toList) (k := i) (by rw [HLEN.out]; exact hin)
       rw [getd s i his, hc] at hdr
       have HX3 : Hid (((L2 ++ sps (t * q)) ++ [c]) ++ toC t (isC 10 c) (s.data.toList.drop (i + 1)) = R.data.toList) := hid (by
        have h := HX2.out
        rw [hi9, hdr] at h
        rw [← h, List.append_assoc, List.append_assoc, toC_next]
        rfl)
       clear hdr HX2 HSP HST
       have hws := HSB.out.2.size
       obtain ⟨YS, hYS⟩ : ∃ YS, YS = (L2 ++ sps (t * q)).map encB := ⟨_, rfl⟩
       obtain ⟨al, hal⟩ : ∃ al, (L2 ++ sps (t * q)).length = al := ⟨_, rfl⟩
       have HO : Hid (wr.ownsRow w.heap.size 5 1 u5 al YS) := hid (by rw [hYS, ← hal]; exact HSB.out.1)
       have HYS := hid hYS
       rw [hal] at hLl
       clear hYS hal
       cases h10 : isC 10 c with
       | true =>
        have m10 := (isC_beq 10 c 10 rfl).trans h10
        have HX4 := hid (h10 ▸ HX3.out)
        clear h10
        go_wp2_with (at_builtin; refine wpList_append_own _ rfl _ _ 58 rfl w.heap.size 5 i0 _ 1 1 Tryz.underlying58 hi hz0 hz1 hz2 rfl (by decide) _ _ _ rfl (HO.out.alloc _) ⟨wr.heap.size, 0, none⟩ 1 1 [.int .u8 (c.toNat : Int)] rfl rfl (cells_new wr _ _) (one_one _) (by unfold maxLen; omega) (by omega) (by simp; omega) ?_)
        intro v' w2 hown' hgrow hnil
        have HSB2 := hid (SpB.app (x := [c]) HSB.out HYS.out hown' hgrow)
        clear hown' hgrow hnil HO HSB
        go_wp2
        go_roundw
        case measure => simp [intOf]; omega
        case rel => exact ⟨i + 1, true, (L2 ++ sps (t * q)) ++ [c], by omega, rfl, by go_num, HSB2, HX4⟩
       | false =>
        have m10 := (isC_beq 10 c 10 rfl).trans h10
        have HX4 := hid (h10 ▸ HX3.out)
        clear h10
        go_wp2_with (at_builtin; refine wpList_append_own _ rfl _ _ 58 rfl w.heap.size 5 i0 _ 1 1 Tryz.underlying58 hi hz0 hz1 hz2 rfl (by decide) _ _ _ rfl (HO.out.alloc _) ⟨wr.heap.size, 0, none⟩ 1 1 [.int .u8 (c.toNat : Int)] rfl rfl (cells_new wr _ _) (one_one _) (by unfold maxLen; omega) (by omega) (by simp; omega) ?_)
        intro v' w2 hown' hgrow hnil
        have HSB2 := hid (SpB.app (x := [c]) HSB.out HYS.out hown' hgrow)
        clear hown' hgrow hnil HO HSB
        go_wp2
        go_roundw
        case measure => simp [intOf]; omega
        case rel => exact ⟨i + 1, false, (L2 ++ sps (t * q)) ++ [c], by omega, rfl, by go_num, HSB2, HX4⟩
      ·obtain rfl : i = n := by omega
       have hie : ((i : Int) == (i : Int)) = true := beq_self_eq_true _
       have HE : Hid (L2 ++ sps (t * q) = R.data.toList) := hid (by
        have h := HX2.out
        rw [hi9, List.drop_of_length_le (by rw [HLEN.out]; exact Nat.le_refl _), rst_nil, List.append_nil] at h
        exact h)
       clear HX2 HSP HST hin
       rcases own_cases HSB.out.1 with ⟨hv, hA⟩ | ⟨g, cap2, hv2, hcv⟩
       ·subst hv
        have HAn := hid hA
        clear hA
        have hcv := conv_nil wr
        go_wp2
        go_ret
        exact ⟨ret_s9 (by rw [← HE.out, HAn.out]), HSB.out.2⟩
       ·subst hv2
        obtain ⟨Z, hZ⟩ : ∃ Z : ByteArray, Z = ⟨(L2 ++ sps (t * q)).toArray⟩ := ⟨_, rfl⟩
        rw [← hZ] at hcv
        have HZ := hid hZ
        obtain ⟨al, hal⟩ : ∃ al, (L2 ++ sps (t * q)).length = al := ⟨_, rfl⟩
        have HBL := hid HSB.out.2
        rw [hal] at hcv ⊢
        clear hZ hal HSB
        go_wp2
        go_ret
        exact ⟨ret_s9 (by rw [HZ.out, ← HE.out]), HBL.out⟩
  ·obtain rfl : j = n := by omega
   have HE : Hid (L = R.data.toList) := hid (by
    have h := HX.out
    rw [List.drop_of_length_le (by rw [HLEN.out]; exact Nat.le_refl _), toC_nil, List.append_nil] at h
    exact h)
   clear HX hlt
   rcases own_cases HSB.out.1 with ⟨hv, hA⟩ | ⟨g, cap2, hv2, hcv⟩
   ·subst hv
    have HAn := hid hA
    clear hA
    have hcv := conv_nil wr
    go_wp2
    go_ret
    exact ⟨ret_s9 (by rw [← HE.out, HAn.out]), HSB.out.2⟩
   ·subst hv2
    obtain ⟨Z, hZ⟩ : ∃ Z : ByteArray, Z = ⟨(L).toArray⟩ := ⟨_, rfl⟩
    rw [← hZ] at hcv
    have HZ := hid hZ
    obtain ⟨al, hal⟩ : ∃ al, (L).length = al := ⟨_, rfl⟩
    have HBL := hid HSB.out.2
    rw [hal] at hcv ⊢
    clear hZ hal HSB
    go_wp2
    go_ret
    exact ⟨ret_s9 (by rw [HZ.out, ← HE.out]), HBL.out⟩
end
end Go.Proofs.YtecglpocmhkkiaaGreatDoor
