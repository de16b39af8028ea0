/- RefEnv5 -/
import Derived.Lib.TrimByte
import Derived.Test.YtgdejjkiiaodkaaGreatDoorPT12
import Derived.Test.YtgdejjkiiaodkaaGreatDoorPT13
import Derived.Test.YtgdejjkiiaodkaaGreatDoorPT26
import Derived.Test.YtgdejjkiiaodkaaGreatDoorPT3
set_option linter.unusedVariables false
set_option linter.unusedSimpArgs false
set_option maxRecDepth 100000
set_option maxHeartbeats 16000000
open Go.Lib (hid)
namespace Go.Proofs.YtgdejjkiiaodkaaGreatDoor
section
open Go.RowKit Go.Sort
open Nw V12 Q6
theorem bq (c : UInt8) (k : Nat) (b : Bool) (h : decide (c.toNat = k) = b) : ((c.toNat : Int) == (k : Int)) = b := by
 subst h
 by_cases h : c.toNat = k
 ·rw [decide_eq_true h, h]; exact beq_self_eq_true _
 ·rw [decide_eq_false h]; exact beq_eq_false_iff_ne.2 (by omega)
theorem bnq (c : UInt8) (k : Nat) (b : Bool) (h : decide (c.toNat ≠ k) = b) : ((c.toNat : Int) != (k : Int)) = b := by
 rw [bne, bq c k (!b) (by rw [← h]; by_cases h : c.toNat = k <;> simp [h])]
 cases b <;> rfl
theorem from12 (s : ByteArray) (k : Nat) : (s.extract k s.size).data.toList = s.data.toList.drop k := by rw [Lib.extract_from]
theorem upto12 (s : ByteArray) (e : Nat) : (s.extract 0 e).data.toList = s.data.toList.take e := by rw [Lib.extract_upto]
theorem nat_of (c : UInt8) (k : UInt8) : c = k ↔ c.toNat = k.toNat := ⟨fun e => by rw [e], fun e => UInt8.toNat_inj.1 e⟩
theorem dropB_yes {l : L8} (h : 0 < l.length) (h2 : l.getD 0 0 = 32) : dropB l = dropB (l.drop 1) := by
 cases l with
 | nil => cases h
 | cons c t =>
  have hc : c = 32 := h2
  unfold dropB
  rw [List.dropWhile_cons, decide_eq_true hc]
  rfl
theorem rev_at {l : L8} (h : 0 < l.length) : l.reverse.getD 0 0 = l.getD (l.length - 1) 0 := by
 rw [List.getD_eq_getElem?_getD, List.getD_eq_getElem?_getD, List.getElem?_reverse h, Nat.sub_zero]
theorem dropE_no {l : L8} (h : l = [] ∨ l.getD (l.length - 1) 0 ≠ 32) : dropE l = l := by
 unfold dropE
 rcases h with rfl | h
 ·rfl
 ·by_cases h0 : l = []
  ·subst h0; rfl
  ·rw [dropB_no (by rw [rev_at (List.length_pos_iff.2 h0)]; exact h), List.reverse_reverse]
theorem dropE_yes {l : L8} (h : 0 < l.length) (h2 : l.getD (l.length - 1) 0 = 32) : dropE l = dropE (l.take (l.length - 1)) := by
 unfold dropE
 rw [dropB_yes (by rw [List.length_reverse]; exact h) (by rw [rev_at h]; exact h2)]
 congr 2
 rw [List.reverse_take, Nat.sub_sub_self h]
theorem ret_str {a b : ByteArray} (h : a = b) : Ending.returned (.string a) = .returned (.string b) := by rw [h]
theorem arr_of {a b : ByteArray} (h : a.data.toList = b.data.toList) : a = b := by
 cases a; cases b
 simpa using h
theorem RTrim_any (s q : ByteArray) (w : World) (hs : s.size ≤ 1000000) (hq : trimS s.data.toList = q.data.toList) :
  Calls Tryz.prog 55 #[.string s] w fun e w' => e = .returned (.string q) ∧ w' = w := by
 have HQ := hid hq
 clear hq
 go_enter Tryz.func55, Tryz.ntmps55
 go_wp2
 go_loop [0] (fun t0 => ∃ u : ByteArray, u.size ≤ 1000000 ∧ t0 = .string u ∧ Hid (dropE (dropB u.data.toList) = q.data.toList)) (fun t0 => Lib.strSize t0)
 case atStart => exact ⟨s, hs, rfl, HQ⟩
 case round =>
  obtain ⟨u, hus, rfl, HU⟩ := hrel
  have HLEN := hid (len_eq u)
  by_cases h0 : 0 < u.size
  ·obtain ⟨c, hc⟩ : ∃ c, u[0]'h0 = c := ⟨_, rfl⟩
   have h0z : (0 : Int) < (u.size : Int) := by omega
   have hcl : u.data.toList.getD 0 0 = c := by rw [← hc]; exact getd u 0 h0
   by_cases hc32 : c = 32
   ·have m32 : ((c.toNat : Int) == 32) = true := bq c 32 true (by rw [hc32]; decide)
    obtain ⟨z, hz⟩ : ∃ z, u.extract 1 u.size = z := ⟨_, rfl⟩
    have HZ : Hid (dropE (dropB z.data.toList) = q.data.toList) := hid (by
     have e := dropB_yes (l := u.data.toList) (by rw [HLEN.out]; exact h0) (by rw [hcl]; exact hc32)
     rw [← HU.out, ← hz, from12, e])
    have hzs : z.size + 1 = u.size := by rw [← hz, ByteArray.size_extract]; omega
    obtain ⟨m, hm⟩ : ∃ m, u.size = m := ⟨_, rfl⟩
    rw [hm] at h0z hz hzs hus
    have hm1 : 1 ≤ m := by omega
    have hm1z : (1 : Int) ≤ (m : Int) := by omega
    have HZS := hid hzs
    clear hcl hc32 hzs
    go_wp2
    go_round
    case rel => exact ⟨z, by have := HZS.out; omega, rfl, HZ⟩
    case measure => simp [Lib.strSize]; have := HZS.out; omega
   ·have m32 : ((c.toNat : Int) == 32) = false := bq c 32 false (decide_eq_false fun e => hc32 ((nat_of c 32).2 e))
    have HE : Hid (dropE u.data.toList = q.data.toList) := hid (by rw [← HU.out, dropB_no (by rw [hcl]; exact hc32)])
    clear hcl hc32 HU
    go_wp2
    go_loop [0] (fun t0 => ∃ v : ByteArray, v.size ≤ 1000000 ∧ t0 = .string v ∧ Hid (dropE v.data.toList = q.data.toList)) (fun t0 => Lib.strSize t0)
    case atStart => exact ⟨u, hus, rfl, HE⟩
    case round =>
     clear hc m32 h0z h0
     obtain ⟨v, hvs, rfl, HV⟩ := hrel
     clear hus HLEN HE
     have HLEN := hid (len_eq v)
     by_cases h0 : 0 < v.size
     ·have hls : v.size - 1 < v.size := by omega
      obtain ⟨c, hc⟩ : ∃ c, v[v.size - 1]'hls = c := ⟨_, rfl⟩
      have hcl : v.data.toList.getD (v.data.toList.length - 1) 0 = c := by rw [HLEN.out, ← hc]; exact getd v (v.size - 1) hls
      have h0z : (0 : Int) < (v.size : Int) := by omega
      obtain ⟨m, hm⟩ : ∃ m, v.size = m := ⟨_, rfl⟩
      have hvm : v.size - 1 = m - 1 := by omega
      have hls2 : m - 1 < v.size := by omega
      have hc2 : v[m - 1]'hls2 = c := by rw [← hc]; simp only [hvm]
      have e1 : (0 : Int) ≤ (m : Int) - 1 := by omega
      have e2 : ((m : Int) - 1).toNat = m - 1 := by omega
      have e3 : (m : Int) - 1 < (m : Int) := by omega
      have e6 : (m : Int) - 1 ≤ (m : Int) := by omega
      have e4 : IntKind.i64.wrap ((m : Int) - 1) = (m : Int) - 1 := wrap_small _ (by omega) (by omega)
      have e5 : m - 1 < m := by omega
      have e7 : m - 1 ≤ m := by omega
      have e8 : (1 : Int) ≤ (m : Int) := by omega
      by_cases hc32 : c = 32
      ·have m32 : ((c.toNat : Int) == 32) = true := bq c 32 true (by rw [hc32]; decide)
       obtain ⟨z, hz⟩ : ∃ z, v.extract 0 (m - 1) = z := ⟨_, rfl⟩
       have HZ : Hid (dropE z.data.toList = q.data.toList) := hid (by
        have e := dropE_yes (l := v.data.toList) (by rw [HLEN.out]; exact h0) (by rw [hcl]; exact hc32)
        rw [← HV.out, ← hz, upto12, e, HLEN.out, hvm])
       have hzs : z.size + 1 = m := by rw [← hz, ByteArray.size_extract]; omega
       have HZS := hid hzs
       rw [hm] at h0z hvs h0
       clear hcl hc32 hzs hc hvm
       go_wp2
       go_round
       case rel => exact ⟨z, by have := HZS.out; omega, rfl, HZ⟩
       case measure => simp [Lib.strSize]; have := HZS.out; omega
      ·have m32 : ((c.toNat : Int) == 32) = false := bq c 32 false (decide_eq_false fun e => hc32 ((nat_of c 32).2 e))
       have HR : Hid (v = q) := hid (arr_of (by rw [← HV.out]; exact (dropE_no (.inr (by rw [hcl]; exact hc32))).symm))
       rw [hm] at h0z hvs h0
       clear hcl hc32 hc hvm
       go_wp2
       go_ret
       exact ⟨ret_str HR.out, rfl⟩
     ·have hv0 : v.data.toList = [] := List.length_eq_zero_iff.1 (by rw [HLEN.out]; omega)
      have HR : Hid (v = q) := hid (arr_of (by rw [← HV.out, hv0]; rfl))
      obtain rfl := bytes_of (l := #[]) hv0
      clear hv0 h0 HLEN HV
      go_wp2
      go_ret
      exact ⟨ret_str HR.out, rfl⟩
  ·have hv0 : u.data.toList = [] := List.length_eq_zero_iff.1 (by rw [HLEN.out]; omega)
   have HR : Hid ((⟨#[]⟩ : ByteArray) = q) := hid (arr_of (by rw [← HU.out, hv0]; rfl))
   obtain rfl := bytes_of (l := #[]) hv0
   clear hv0 h0 HLEN HU
   go_wp2
   go_loop [0] (fun t0 => t0 = .string ⟨#[]⟩) (fun t0 => Lib.strSize t0)
   case atStart => rfl
   case round =>
    subst hrel
    go_wp2
    go_ret
    exact ⟨ret_str HR.out, rfl⟩
end
end Go.Proofs.YtgdejjkiiaodkaaGreatDoor
