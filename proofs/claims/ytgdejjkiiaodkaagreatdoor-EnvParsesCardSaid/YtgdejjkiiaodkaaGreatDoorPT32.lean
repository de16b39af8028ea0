/- RefEnv9 -/
import Derived.Test.YtgdejjkiiaodkaaGreatDoorPT31
set_option linter.unusedVariables false
set_option linter.unusedSimpArgs false
set_option maxRecDepth 100000
set_option maxHeartbeats 16000000
open Go.Lib (hid)
namespace Go.Proofs.YtgdejjkiiaodkaaGreatDoor
section
open Go.RowKit Go.Sort
open Nw V12 Q6
def GivesPar (P : List KV × Nat × Int) (w : World) (e : Ending) (w' : World) : Prop := ∃ v, e = .returned (.tuple #[v, .int .i64 (P.2.1 : Int), .int .i64 P.2.2]) ∧ VR w' v P.1 ∧ Below w.heap.size w w'
theorem goV_end (no : Nat) (acc : List KV) (l : L8) (n : Nat) (h : l.length ≤ n) : goV no acc (l.drop (n + 1)) = if 64 < (gath acc).length then ([], 0, 9) else (gath acc, 0, 0) := by
 rw [List.drop_of_length_le (by omega), goV_nil]
theorem pairV_key {s : L8} {p : KV} (h : pairV s = some p) : isV p.1 = true := by
 unfold pairV at h
 simp only [] at h
 split at h
 ·cases h
 ·rename_i hn
  cases hv : valV (s.drop (befN 61 s + 1)) with
  | none => rw [hv] at h; cases h
  | some v =>
   rw [hv] at h
   cases h
   simp only [not_or] at hn
   simpa using hn.2.1
theorem lineV_key {l : L8} {p : KV} (h : lineV l = some (some p)) : isV p.1 = true := by
 unfold lineV at h
 simp only [] at h
 split at h
 ·cases h
 ·cases hp : pairV (expS (trimS l)) with
  | none => rw [hp] at h; cases h
  | some q => rw [hp] at h; cases h; exact pairV_key hp
theorem isV_len {k : L8} (h : isV k = true) : 0 < k.length ∧ k.length ≤ 24 := by
 have h1 : 0 < k.length ∧ k.length ≤ 24 ∧ Nw.good v1 v2 k k.length := of_decide_eq_true h
 exact ⟨h1.1, h1.2.1⟩
theorem RGathered_slice (v : Value) (l : List KV) (w : World) (h : VR w v l) (hok : KVk l) (hbig : l.length ≤ 100000) :
  Calls Tryz.prog 18 #[v] w fun e w' => ∃ (a : Option Addr) (G cap : Nat), e = .returned (.slice a G cap) ∧ G = (gath l).length ∧ G ≤ 100000 ∧ G ≤ cap ∧ cap ≤ 2 ^ 63 - 1 ∧ VR w' (.slice a G cap) (gath l) ∧ Below w.heap.size w w' :=
 (RGathered_own v l w h hok hbig).mono fun e w' ⟨v', he, ho, hb⟩ => by
  have h1 := (vr_of_owns ho).1
  obtain ⟨a, cap, rfl, k1, k2, k3⟩ := h1
  exact ⟨a, _, cap, he, rfl, Nat.le_trans (gath_len l) hbig, k1, k2, (vr_of_owns ho).1, hb⟩
theorem KVk.snoc {acc : List KV} {p : KV} (h : KVk acc) (hp : isV p.1 = true) : KVk (acc ++ [p]) := fun q hq => by
 rcases List.mem_append.1 hq with hq | hq
 ·exact h q hq
 ·rcases List.mem_cons.1 hq with rfl | hq
  ·have := (isV_len hp).2; unfold maxLen; omega
  ·cases hq
theorem RParse12_any (s : ByteArray) (w : World) (hs : s.size ≤ 100000) : Calls Tryz.prog 17 #[.string s] w (GivesPar (parV s.data.toList) w) := by
 have HLEN0 := hid (len_eq s)
 by_cases hlen : (8192 : Int) < (s.size : Int)
 ·have HP : Hid (parV s.data.toList = ([], 0, 9)) := hid (par_long (by rw [HLEN0.out]; omega))
  go_enter Tryz.func17, Tryz.ntmps17
  go_wp2
  go_ret3
  rw [HP.out]
  exact ⟨_, rfl, vr_nil _ none 0 (Nat.zero_le _) (fun _ => rfl), Below.refl _ _⟩
 obtain ⟨i3, hi3, hy0, hy1, hy2⟩ := infoV
 obtain ⟨R, hR⟩ : ∃ R, parV s.data.toList = R := ⟨_, rfl⟩
 rw [hR]
 have hwalk : goV 0 [] s.data.toList = R := by
  rw [← hR]
  unfold parV
  rw [if_neg (show ¬ 8192 < s.data.toList.length by rw [HLEN0.out]; omega)]
 have HR0 := hid hwalk
 clear hwalk hR
 have HON := hid (ownV_literal w w.heap.size (Nat.le_refl _))
 go_enter Tryz.func17, Tryz.ntmps17
 go_wp2
 go_loopw [0, 5, 6] (fun s0 sv si wr => ∃ (no : Nat) (acc : List KV) (u : ByteArray), no + u.size ≤ 100000 ∧ acc.length ≤ no ∧ s0 = .string u ∧ si = .int .i64 (no : Int) ∧ Hid (wr.ownsRow w.heap.size 38 2 sv acc.length (cellsV acc)) ∧
  Hid (Below w.heap.size w wr) ∧ Hid (KVk acc) ∧ Hid (goV no acc u.data.toList = R)) (fun s0 _ _ _ => Lib.strSize s0)
 case atStart => exact ⟨0, [], s, by omega, Nat.le_refl _, rfl, rfl, HON, hid ((Below.refl _ _).alloc (Nat.le_refl _) _), hid (fun p hp => by cases hp), HR0⟩
 case round =>
  clear HR0 HON HLEN0
  obtain ⟨no, acc, u, hnu, hak, rfl, rfl, HO, HB, HK, HW1⟩ := hrel
  by_cases hu0 : u.data.toList = []
  ·have HE : Hid ((if 64 < (gath acc).length then ([], 0, 9) else (gath acc, 0, 0)) = R) := hid (by rw [← HW1.out, hu0]; exact (goV_nil no acc).symm)
   obtain rfl := bytes_of (l := #[]) hu0
   have hal : acc.length ≤ 100000 := by omega
   clear hu0
   by_cases hbig : 64 < (gath acc).length
   ·have HRR : Hid (R = ([], 0, 9)) := hid (by rw [← HE.out, if_pos hbig])
    go_wp2_with first
     | (go_at_call 18; refine (RGathered_slice _ acc _ (vr_of_owns HO.out).1 HK.out hal).mono ?_; rintro e w5 ⟨a5, G, cap5, rfl, hG, hGl, k1, k2, o5, b5⟩; have hbz : (64 : Int) < (G : Int) := (by omega); have HB5 := hid (HB.out.trans (b5.mono HB.out.size)); clear o5 b5 hG)
    go_ret3
    rw [HRR.out]
    exact ⟨_, rfl, vr_nil _ none 0 (Nat.zero_le _) (fun _ => rfl), HB5.out⟩
   ·have HRR : Hid (R = (gath acc, 0, 0)) := hid (by rw [← HE.out, if_neg hbig])
    go_wp2_with first
     | (go_at_call 18; refine (RGathered_slice _ acc _ (vr_of_owns HO.out).1 HK.out hal).mono ?_; rintro e w5 ⟨a5, G, cap5, rfl, hG, hGl, k1, k2, o5, b5⟩; have hbz : ¬ (64 : Int) < (G : Int) := (by omega); have HB5 := hid (HB.out.trans (b5.mono HB.out.size)); have HG5 := hid o5; clear o5 b5 hG)
    go_ret3
    rw [HRR.out]
    exact ⟨_, rfl, HG5.out, HB5.out⟩
  ·have hup : 0 < u.size := by
    have := List.length_pos_iff.2 hu0
    rw [len_eq] at this; exact this
   have HU0 : Hid (u.data.toList ≠ []) := hid hu0
   obtain ⟨r, hr⟩ : ∃ r, befN 10 u.data.toList = r := ⟨_, rfl⟩
   have hru : r ≤ u.size := by rw [← hr, ← len_eq]; exact befN_le _ _
   obtain ⟨x, hx⟩ : ∃ x, u.extract 0 r = x := ⟨_, rfl⟩
   have hxs : x.size ≤ 100000 := by rw [← hx, ByteArray.size_extract]; omega
   have HXD : Hid (u.data.toList.take (befN 10 u.data.toList) = x.data.toList) := hid (by rw [← hx, upto12, hr])
   have HR := hid hr
   have HL := hid (fun w0 => RLine_any x w0 hxs)
   obtain ⟨m, hm⟩ : ∃ m, u.size = m := ⟨_, rfl⟩
   have HM := hid hm
   rw [hm] at hnu hup hru
   have e0 : (0 : Int) < (m : Int) := by omega
   have kw : IntKind.i64.wrap ((no : Int) + 1) = (no : Int) + 1 := IntWalk.i64_in _ (by omega)
   have HLEN := hid (len_eq u)
   clear hu0 hr
   go_wp2
   go_loop [7] (fun t7 => ∃ k : Nat, k ≤ r ∧ t7 = .int .i64 (k : Int)) (fun t7 => r - (intOf t7).toNat)
   case atStart => exact ⟨0, Nat.zero_le _, rfl⟩
   case round =>
    obtain ⟨k, hk, rfl⟩ := hrel
    by_cases hlt : k < r
    ·have hks : k < u.size := by omega
     have hskz : (k : Int) < (m : Int) := by omega
     obtain ⟨c, hc⟩ : ∃ c, u[k]'hks = c := ⟨_, rfl⟩
     have hne : c ≠ 10 := by rw [← hc, ← getd u k hks]; exact (befN_lt (by rw [HR.out]; exact hlt)).2
     have m10 : ((c.toNat : Int) != 10) = true := bnq c 10 true (decide_eq_true fun e => hne ((nat_of c 10).2 e))
     clear hne
     go_wp2
     go_round
     case rel => exact ⟨k + 1, by omega, by go_num⟩
     case measure => simp [intOf]; omega
    ·obtain rfl : k = r := by omega
     clear hlt hk
     by_cases hkm : k < m
     ·have hks : k < u.size := by omega
      have hskz : (k : Int) < (m : Int) := by omega
      have hskz' : (k : Int) ≤ (m : Int) := by omega
      have hk1z : (k : Int) + 1 ≤ (m : Int) := by omega
      have hk1 : k + 1 ≤ m := by omega
      have hkne : ((k : Int) == (m : Int)) = false := beq_eq_false_iff_ne.2 (by omega)
      obtain ⟨c, hc⟩ : ∃ c, u[k]'hks = c := ⟨_, rfl⟩
      have he : c = 10 := by
       rw [← hc, ← getd u k hks]
       have := befN_at (b := 10) (l := u.data.toList) (by rw [HR.out, HLEN.out, HM.out]; exact hkm)
       rw [HR.out] at this; exact this
      have m10 : ((c.toNat : Int) != 10) = false := bnq c 10 false (by rw [he]; decide)
      have e1 : 0 ≤ (k : Int) + 1 := by omega
      have e2 : ((k : Int) + 1).toNat = k + 1 := by omega
      obtain ⟨z, hz⟩ : ∃ z, u.extract (k + 1) m = z := ⟨_, rfl⟩
      have HZ : Hid (u.data.toList.drop (befN 10 u.data.toList + 1) = z.data.toList) := hid (by rw [← hz, HR.out, ← HM.out, from12])
      have hzs : z.size + (k + 1) = m := by rw [← hz, ByteArray.size_extract]; omega
      have HZS := hid hzs
      clear he hzs
      cases hv : lineV x.data.toList with
      | none =>
       have HE : Hid (R = ([], no + 1, 3)) := hid (by rw [← HW1.out]; exact goV_bad HU0.out (by rw [HXD.out]; exact hv))
       go_wp2_with (go_at_call 31; refine (HL.out _).mono ?_; rintro e w2 ⟨kk, vv, bb, rfl, hLR, hb2⟩; unfold LineR at hLR; rw [hv] at hLR; replace hLR : bb = false := hLR; subst hLR)
       go_ret3
       rw [HE.out]
       exact ⟨_, rfl, vr_nil _ none 0 (Nat.zero_le _) (fun _ => rfl), (HB.out.trans (hb2.mono HB.out.size)).alloc (HB.out.trans (hb2.mono HB.out.size)).size _⟩
      | some o =>
       cases o with
       | none =>
        have HN : Hid (goV (no + 1) acc (u.data.toList.drop (befN 10 u.data.toList + 1)) = R) := hid (by
         rw [← HW1.out, goV_next HU0.out (by rw [HXD.out]; exact hv)]
         show _ = goV (no + 1) (acc ++ []) _
         rw [List.append_nil])
        go_wp2_with first
         | (go_at_call 31; refine (HL.out _).mono ?_; rintro e w2 ⟨kk, vv, bb, rfl, hLR, hb2⟩; unfold LineR at hLR; rw [hv] at hLR; obtain ⟨rfl, rfl, rfl⟩ := hLR; have HO2 := hid (ownsV_below HO.out hb2); have HB2 := hid (HB.out.trans (hb2.mono HB.out.size)))
        go_roundw
        case rel => exact ⟨no + 1, acc, z, by have := HZS.out; omega, by omega, rfl, by go_num, hid (HO2.out.alloc _), hid (HB2.out.alloc HB2.out.size _), HK, by rw [← HZ.out]; exact HN⟩
        case measure => simp [Lib.strSize]; have := HZS.out; have := HM.out; omega
       | some p =>
        obtain ⟨X, hX⟩ : ∃ X, X = ba p.1 := ⟨_, rfl⟩
        obtain ⟨Y, hY⟩ : ∃ Y, Y = ba p.2 := ⟨_, rfl⟩
        have hkey := lineV_key hv
        have hX0 : (0 : Int) < (X.size : Int) := by rw [hX, ba_size]; have := (isV_len hkey).1; omega
        have HK2 : Hid (KVk (acc ++ [p])) := hid (HK.out.snoc hkey)
        have HN : Hid (goV (no + 1) (acc ++ [p]) (u.data.toList.drop (befN 10 u.data.toList + 1)) = R) := hid (by
         rw [← HW1.out, goV_next HU0.out (by rw [HXD.out]; exact hv)]; rfl)
        have HAC : Hid (cellsV (acc ++ [p]) = cellsV acc ++ [.string X, .string Y]) := hid (by rw [cellsV_snoc, hX, hY]; rfl)
        have HXY : Hid (X = ba p.1 ∧ Y = ba p.2) := hid ⟨hX, hY⟩
        obtain ⟨XS, hXS⟩ : ∃ XS, XS = cellsV acc := ⟨_, rfl⟩
        obtain ⟨N, hN⟩ : ∃ N, N = acc.length := ⟨_, rfl⟩
        have HXS := hid hXS
        have HNN := hid hN
        rw [← hN] at hak
        have HO' := HO
        rw [← hXS, ← hN] at HO'
        clear hX hY hkey hXS hN
        go_wp2_with first
         | (go_at_call 31; refine (HL.out _).mono ?_; rintro e w2 ⟨kk, vv, bb, rfl, hLR, hb2⟩; unfold LineR at hLR; rw [hv] at hLR; obtain ⟨rfl, rfl, rfl⟩ := hLR; have HO2 := hid (ownsV_below HO'.out hb2); have HB2 := hid (HB.out.trans (hb2.mono HB.out.size)); rw [← HXY.out.1, ← HXY.out.2]; clear hb2)
         | (at_builtin; refine wpList_append_own _ rfl _ _ 22 rfl w.heap.size 38 i3 _ 2 32 Tryz.underlying22 hi3 hy0 hy1 hy2 rfl (by decide) _ _ _ rfl ((HO2.out.alloc _).alloc _) ⟨w2.heap.size + 1, 0, none⟩ 1 1 [.string X, .string Y] rfl rfl ?c1 ?c2 ?c3 ?c4 ?c5 ?_)
        case c1 =>
         intro i u hi
         match i, hi with
         | 0, hi => simp at hi; subst hi; simp [Addr.add]
         | 1, hi => simp at hi; subst hi; simp [Addr.add]
        case c2 => intro u hu; simp at hu; rcases hu with rfl | rfl <;> rfl
        case c3 => unfold maxLen; omega
        case c4 => omega
        case c5 => have := HB2.out.size; simp; omega
        ·intro v' w3 hown' hgrow _
         have HO3 : Hid (w3.ownsRow w.heap.size 38 2 v' (N + 1) (cellsV (acc ++ [p]))) := hid (by rw [HAC.out, ← HXS.out]; exact hown')
         have HB3 : Hid (Below w.heap.size w w3) := hid (((HB2.out.alloc HB2.out.size _).alloc (by have := HB2.out.size; simp; omega) _).grown hgrow (by have := HB2.out.size; simp; omega) (fun q hq => (HO2.out.lt q hq).1))
         clear hown' hgrow
         go_wp2
         go_roundw
         case rel => exact ⟨no + 1, acc ++ [p], z, by have := HZS.out; omega, by rw [List.length_append, ← HNN.out]; show N + 1 ≤ no + 1; omega, rfl, by go_num, by rw [List.length_append, ← HNN.out]; exact HO3, HB3, HK2, by rw [← HZ.out]; exact HN⟩
         case measure => simp [Lib.strSize]; have := HZS.out; have := HM.out; omega
     ·obtain rfl : k = m := by omega
      have hskz : ¬ (k : Int) < (k : Int) := by omega
      have hskz' : (k : Int) ≤ (k : Int) := by omega
      have hkne : ((k : Int) == (k : Int)) = true := beq_self_eq_true _
      clear hkm hru
      cases hv : lineV x.data.toList with
      | none =>
       have HE : Hid (R = ([], no + 1, 3)) := hid (by rw [← HW1.out]; exact goV_bad HU0.out (by rw [HXD.out]; exact hv))
       go_wp2_with (go_at_call 31; refine (HL.out _).mono ?_; rintro e w2 ⟨kk, vv, bb, rfl, hLR, hb2⟩; unfold LineR at hLR; rw [hv] at hLR; replace hLR : bb = false := hLR; subst hLR)
       go_ret3
       rw [HE.out]
       exact ⟨_, rfl, vr_nil _ none 0 (Nat.zero_le _) (fun _ => rfl), (HB.out.trans (hb2.mono HB.out.size)).alloc (HB.out.trans (hb2.mono HB.out.size)).size _⟩
      | some o =>
       cases o with
       | none =>
        have HN : Hid (goV (no + 1) acc (u.data.toList.drop (befN 10 u.data.toList + 1)) = R) := hid (by
         rw [← HW1.out, goV_next HU0.out (by rw [HXD.out]; exact hv)]
         show _ = goV (no + 1) (acc ++ []) _
         rw [List.append_nil])
        have HE : Hid ((if 64 < (gath acc).length then ([], 0, 9) else (gath acc, 0, 0)) = R) := hid (by rw [← HN.out]; exact (goV_end (no + 1) acc _ _ (by rw [HLEN.out, HM.out, HR.out]; exact Nat.le_refl _)).symm)
        have hal : acc.length ≤ 100000 := by omega
        by_cases hbig : 64 < (gath acc).length
        ·have HRR : Hid (R = ([], 0, 9)) := hid (by rw [← HE.out, if_pos hbig])
         go_wp2_with first
          | (go_at_call 31; refine (HL.out _).mono ?_; rintro e w2 ⟨kk, vv, bb, rfl, hLR, hb2⟩; unfold LineR at hLR; rw [hv] at hLR; obtain ⟨rfl, rfl, rfl⟩ := hLR; have HO2 := hid ((ownsV_below HO.out hb2).alloc (.cells #[.string ⟨#[]⟩, .string ⟨#[]⟩] 38)); have HB2 := hid ((HB.out.trans (hb2.mono HB.out.size)).alloc (HB.out.trans (hb2.mono HB.out.size)).size (.cells #[.string ⟨#[]⟩, .string ⟨#[]⟩] 38)); clear hb2)
          | (go_at_call 18; refine (RGathered_slice _ acc _ (vr_of_owns HO2.out).1 HK.out hal).mono ?_; rintro e w5 ⟨a5, G, cap5, rfl, hG, hGl, k1, k2, o5, b5⟩; have hbz : (64 : Int) < (G : Int) := (by omega); have HB5 := hid (HB2.out.trans (b5.mono HB2.out.size)); clear o5 b5 hG)
         go_ret3
         rw [HRR.out]
         exact ⟨_, rfl, vr_nil _ none 0 (Nat.zero_le _) (fun _ => rfl), HB5.out⟩
        ·have HRR : Hid (R = (gath acc, 0, 0)) := hid (by rw [← HE.out, if_neg hbig])
         go_wp2_with first
          | (go_at_call 31; refine (HL.out _).mono ?_; rintro e w2 ⟨kk, vv, bb, rfl, hLR, hb2⟩; unfold LineR at hLR; rw [hv] at hLR; obtain ⟨rfl, rfl, rfl⟩ := hLR; have HO2 := hid ((ownsV_below HO.out hb2).alloc (.cells #[.string ⟨#[]⟩, .string ⟨#[]⟩] 38)); have HB2 := hid ((HB.out.trans (hb2.mono HB.out.size)).alloc (HB.out.trans (hb2.mono HB.out.size)).size (.cells #[.string ⟨#[]⟩, .string ⟨#[]⟩] 38)); clear hb2)
          | (go_at_call 18; refine (RGathered_slice _ acc _ (vr_of_owns HO2.out).1 HK.out hal).mono ?_; rintro e w5 ⟨a5, G, cap5, rfl, hG, hGl, k1, k2, o5, b5⟩; have hbz : ¬ (64 : Int) < (G : Int) := (by omega); have HB5 := hid (HB2.out.trans (b5.mono HB2.out.size)); have HG5 := hid o5; clear o5 b5 hG)
         go_ret3
         rw [HRR.out]
         exact ⟨_, rfl, HG5.out, HB5.out⟩
       | some p =>
        obtain ⟨X, hX⟩ : ∃ X, X = ba p.1 := ⟨_, rfl⟩
        obtain ⟨Y, hY⟩ : ∃ Y, Y = ba p.2 := ⟨_, rfl⟩
        have hkey := lineV_key hv
        have hX0 : (0 : Int) < (X.size : Int) := by rw [hX, ba_size]; have := (isV_len hkey).1; omega
        have HK2 : Hid (KVk (acc ++ [p])) := hid (HK.out.snoc hkey)
        have HN : Hid (goV (no + 1) (acc ++ [p]) (u.data.toList.drop (befN 10 u.data.toList + 1)) = R) := hid (by
         rw [← HW1.out, goV_next HU0.out (by rw [HXD.out]; exact hv)]; rfl)
        have HAC : Hid (cellsV (acc ++ [p]) = cellsV acc ++ [.string X, .string Y]) := hid (by rw [cellsV_snoc, hX, hY]; rfl)
        have HXY : Hid (X = ba p.1 ∧ Y = ba p.2) := hid ⟨hX, hY⟩
        obtain ⟨XS, hXS⟩ : ∃ XS, XS = cellsV acc := ⟨_, rfl⟩
        obtain ⟨N, hN⟩ : ∃ N, N = acc.length := ⟨_, rfl⟩
        have HXS := hid hXS
        have HNN := hid hN
        rw [← hN] at hak
        have HO' := HO
        rw [← hXS, ← hN] at HO'
        clear hX hY hkey hXS hN
        go_wp2_with first
         | (go_at_call 31; refine (HL.out _).mono ?_; rintro e w2 ⟨kk, vv, bb, rfl, hLR, hb2⟩; unfold LineR at hLR; rw [hv] at hLR; obtain ⟨rfl, rfl, rfl⟩ := hLR; have HO2 := hid (ownsV_below HO'.out hb2); have HB2 := hid (HB.out.trans (hb2.mono HB.out.size)); rw [← HXY.out.1, ← HXY.out.2]; clear hb2)
         | (at_builtin; refine wpList_append_own _ rfl _ _ 22 rfl w.heap.size 38 i3 _ 2 32 Tryz.underlying22 hi3 hy0 hy1 hy2 rfl (by decide) _ _ _ rfl ((HO2.out.alloc _).alloc _) ⟨w2.heap.size + 1, 0, none⟩ 1 1 [.string X, .string Y] rfl rfl ?c1 ?c2 ?c3 ?c4 ?c5 ?_)
        case c1 =>
         intro i u hi
         match i, hi with
         | 0, hi => simp at hi; subst hi; simp [Addr.add]
         | 1, hi => simp at hi; subst hi; simp [Addr.add]
        case c2 => intro u hu; simp at hu; rcases hu with rfl | rfl <;> rfl
        case c3 => unfold maxLen; omega
        case c4 => omega
        case c5 => have := HB2.out.size; simp; omega
        ·intro v' w3 hown' hgrow _
         have HO3 : Hid (w3.ownsRow w.heap.size 38 2 v' (N + 1) (cellsV (acc ++ [p]))) := hid (by rw [HAC.out, ← HXS.out]; exact hown')
         have HB3 : Hid (Below w.heap.size w w3) := hid (((HB2.out.alloc HB2.out.size _).alloc (by have := HB2.out.size; simp; omega) _).grown hgrow (by have := HB2.out.size; simp; omega) (fun q hq => (HO2.out.lt q hq).1))
         clear hown' hgrow
         have HE : Hid ((if 64 < (gath (acc ++ [p])).length then ([], 0, 9) else (gath (acc ++ [p]), 0, 0)) = R) := hid (by rw [← HN.out]; exact (goV_end (no + 1) (acc ++ [p]) _ _ (by rw [HLEN.out, HM.out, HR.out]; exact Nat.le_refl _)).symm)
         have hal : (acc ++ [p]).length ≤ 100000 := by rw [List.length_append, ← HNN.out]; show N + 1 ≤ _; omega
         by_cases hbig : 64 < (gath (acc ++ [p])).length
         ·have HRR : Hid (R = ([], 0, 9)) := hid (by rw [← HE.out, if_pos hbig])
          go_wp2_with first
           | (go_at_call 18; refine (RGathered_slice _ (acc ++ [p]) _ (vr_of_owns HO3.out).1 HK2.out hal).mono ?_; rintro e w5 ⟨a5, G, cap5, rfl, hG, hGl, k1, k2, o5, b5⟩; have hbz : (64 : Int) < (G : Int) := (by omega); have HB5 := hid (HB3.out.trans (b5.mono HB3.out.size)); clear o5 b5 hG)
          go_ret3
          rw [HRR.out]
          exact ⟨_, rfl, vr_nil _ none 0 (Nat.zero_le _) (fun _ => rfl), HB5.out⟩
         ·have HRR : Hid (R = (gath (acc ++ [p]), 0, 0)) := hid (by rw [← HE.out, if_neg hbig])
          go_wp2_with first
           | (go_at_call 18; refine (RGathered_slice _ (acc ++ [p]) _ (vr_of_owns HO3.out).1 HK2.out hal).mono ?_; rintro e w5 ⟨a5, G, cap5, rfl, hG, hGl, k1, k2, o5, b5⟩; have hbz : ¬ (64 : Int) < (G : Int) := (by omega); have HB5 := hid (HB3.out.trans (b5.mono HB3.out.size)); have HG5 := hid o5; clear o5 b5 hG)
          go_ret3
          rw [HRR.out]
          exact ⟨_, rfl, HG5.out, HB5.out⟩
end
end Go.Proofs.YtgdejjkiiaodkaaGreatDoor
