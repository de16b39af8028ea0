/- The contract of the document's own answer MilliText. -/
import Derived.Test.YtioplkdmkdhnfaaRefDig1
namespace Go.Proofs.Ytioplkdmkdhnfaa
open Go.RowKit
open Dg
set_option linter.unusedVariables false
theorem conv_three (wr : World) (x y z : Int) (a b c : UInt8) (hx : x = (a.toNat : Int)) (hy : y = (b.toNat : Int)) (hz : z = (c.toNat : Int)) :
    (convert 32 9 (.slice (some ⟨wr.heap.size, 0, none⟩) 3 3)).run Try.prog (wr.alloc (.cells #[.int .u8 x, .int .u8 y, .int .u8 z] 5)) = .ok (.string ⟨#[a, b, c]⟩) (wr.alloc (.cells #[.int .u8 x, .int .u8 y, .int .u8 z] 5)) := by
  subst hx hy hz
  refine conv_read (l := [a, b, c]) (fun i hi => ?_) rfl
  rw [World.cell?_alloc_at _ _ _ _ rfl]
  have hi' : i < 3 := hi
  rcases i with _ | _ | _ | i
  · rfl
  · rfl
  · rfl
  · omega
theorem dgw_three {f : Nat} (h : f < 1000) : dgw 3 f = [dch (f / 100), dch (f / 10 % 10), dch (f % 10)] := by
  have h1 : f / 10 / 10 / 10 = 0 := by omega
  have h2 : f / 10 / 10 % 10 = f / 100 := by omega
  rw [dgw_step (wd := 3) (by omega), dgw_step (wd := 2) (by omega), dgw_step (wd := 1) (by omega), h1, dgw_stop, h2]
  rfl
theorem dch_toNat (k : Nat) (h : k < 10) : ((dch k).toNat : Int) = 48 + (k : Int) := by
  unfold dch; rw [UInt8.toNat_ofNat']; omega

def strSize : Value → Nat
  | .string t => t.size
  | _ => 0
theorem dgw_succ (wd g : Nat) : dgw (wd + 1) g = dgw wd (g / 10) ++ [dch (g % 10)] := by
  rw [dgw_step (by omega)]; rfl
theorem last_of {t : ByteArray} {l : List UInt8} {c : UInt8} (h : t.data.toList = l ++ [c]) : ∃ h : t.size - 1 < t.size, t[t.size - 1] = c ∧ t.size = l.length + 1 := by
  have hs : t.size = l.length + 1 := by rw [← len_eq, h]; simp
  refine ⟨by omega, ?_, hs⟩
  have h2 : t.data.toList[t.size - 1]? = some c := by rw [h, hs]; simp
  have h3 : t.data.toList[t.size - 1]? = some t[t.size - 1] := by
    rw [List.getElem?_eq_getElem (by rw [len_eq]; omega)]; rfl
  rw [h3] at h2
  exact Option.some.inj h2
theorem init_of {t : ByteArray} {l : List UInt8} {c : UInt8} (h : t.data.toList = l ++ [c]) : (t.extract 0 (t.size - 1)).data.toList = l := by
  have hs : t.size = l.length + 1 := by rw [← len_eq, h]; simp
  rw [Lib.extract_data, h, hs]; simp

set_option maxHeartbeats 1000000 in
theorem RMilliText_any (n : Int) (w : World) (h1 : -9223372036854775808 ≤ n) (h2 : n ≤ 9223372036854775807) :
    Calls Try.prog 9 #[.int .i64 n] w fun e w' => e = .returned (.string ⟨(milliTL n).toArray⟩) ∧ Below w.heap.size w w' := by
  by_cases hneg : n < 0
  · have HT : Hid (milliTL n = []) := Lib.hid (by unfold milliTL; rw [if_pos hneg])
    go_enter Try.func9, Try.ntmps9
    go_wp2
    go_ret
    exact ⟨ret_l HT.out, Below.refl _ _⟩
  · obtain ⟨m, rfl⟩ := Int.eq_ofNat_of_zero_le (show 0 ≤ n by omega)
    have HT0 : Hid (milliTL (m : Int) = milliL m) := Lib.hid (by unfold milliTL; rw [if_neg hneg]; rfl)
    have HX : Hid (textL ((m : Int) / 1000) = dgw 1 (m / 1000)) := Lib.hid (by unfold textL; rw [if_neg (by omega)]; congr 1)
    by_cases hz : m % 1000 = 0
    · have HT : Hid (dgw 1 (m / 1000) = milliL m) := Lib.hid (by unfold milliL; rw [if_pos hz])
      have hz' : (m : Int) % 1000 = 0 := by omega
      go_enter Try.func9, Try.ntmps9
      go_wp2_with (go_at_call 7; refine (RText_any _ _ (by omega) (by omega)).mono ?_; rintro e w' ⟨rfl, hb⟩)
      go_ret
      exact ⟨ret_l (by rw [HT0.out, ← HT.out, HX.out]), hb⟩
    · have HT : Hid (milliL m = dgw 1 (m / 1000) ++ 46 :: stripL 3 (m % 1000)) := Lib.hid (by unfold milliL; rw [if_neg hz])
      have hz' : ((m : Int) % 1000 == 0) = false := beq_eq_false_iff_ne.2 (by omega)
      have hf0 : 0 < m % 1000 := by omega
      have hf1 : m % 1000 < 1000 := by omega
      generalize hgf : m % 1000 = f at *
      have hgf' : (m : Int) % 1000 = (f : Int) := by omega
      clear hz
      rw [hgf'] at hz'
      have HG := Lib.hid hgf
      clear hgf
      have hf1' : (f : Int) ≤ 999 := by omega
      have hlen3 : (textL ((m : Int) / 1000)).length ≤ 20 := by
        rw [HX.out]; exact dgw_len 1 (m / 1000) 20 (by omega) (by omega)
      have hcv := fun wr => conv_three wr (48 + (f : Int) / 100) (48 + (f : Int) / 10 % 10) (48 + (f : Int) % 10) (dch (f / 100)) (dch (f / 10 % 10)) (dch (f % 10)) (by rw [dch_toNat _ (by omega)]; rfl) (by rw [dch_toNat _ (by omega)]; rfl) (by rw [dch_toNat _ (by omega)]; rfl)
      go_enter Try.func9, Try.ntmps9
      go_wp2_with (go_at_call 7; refine (RText_any _ _ (by omega) (by omega)).mono ?_; rintro e w' ⟨rfl, hb⟩)
      clear hcv
      go_loop [5] (fun st => ∃ t : ByteArray, ∃ g wd : Nat, st = .string t ∧ t.data.toList = dgw (wd + 1) g ∧ 0 < g ∧ wd + 1 ≤ 3 ∧ g < 10 ^ (wd + 1) ∧ stripL (wd + 1) g = stripL 3 f) (fun st => strSize st)
      case atStart => exact ⟨_, f, 2, rfl, by rw [dgw_three hf1], hf0, by omega, by omega, rfl⟩
      case round =>
        obtain ⟨t, g, wd, rfl, ht, hg0, hwd, hg1, hst⟩ := hrel
        rw [dgw_succ] at ht
        obtain ⟨hlt, hlast, hsz⟩ := last_of ht
        have hll := dgw_len_eq wd (g / 10) (by rw [Nat.pow_succ] at hg1; omega)
        have hsz4 : t.size ≤ 3 := by omega
        have hsz0 : 0 < t.size := by omega
        have hci : ((t.size : Int) - 1).toNat = t.size - 1 := by omega
        have HLl := Lib.hid hll
        have HSz := Lib.hid hsz
        clear hll hsz
        have hc1 : (0 : Int) ≤ (t.size : Int) - 1 := by omega
        have HT2 := Lib.hid ht
        have HP := Lib.hid hg1
        clear ht hg1
        have hv := dch_toNat (g % 10) (by omega)
        rw [← hlast] at hv
        by_cases hgz : g % 10 = 0
        · rw [stripL_go hgz] at hst
          have hv' : (t[t.size - 1].toNat : Int) = 48 := by omega
          have HS := Lib.hid hst
          have HLa := Lib.hid hlast
          have hwd0 : 0 < wd := by
            rcases Nat.eq_zero_or_pos wd with rfl | h
            · have := HP.out; simp at this; omega
            · exact h
          clear hst hlast hv
          obtain ⟨wd, rfl⟩ : ∃ wd', wd = wd' + 1 := ⟨wd - 1, by omega⟩
          go_wp2
          go_round
          case rel => exact ⟨_, g / 10, wd, rfl, init_of HT2.out, by omega, by omega, by have := HP.out; rw [Nat.pow_succ] at this; omega, HS.out⟩
          case measure =>
            have hx : (t.extract 0 (t.size - 1)).size = t.size - 1 := by
              rw [← len_eq, init_of HT2.out]; have := HSz.out; omega
            show (t.extract 0 (t.size - 1)).size < t.size
            omega
        · rw [stripL_stop hgz] at hst
          have hv' : ((t[t.size - 1].toNat : Int) == 48) = false := beq_eq_false_iff_ne.2 (by omega)
          have HS := Lib.hid hst
          have HLa := Lib.hid hlast
          clear hst hlast hv
          go_wp2
          rw [show ∀ x : List UInt8, (⟨x.toArray⟩ : ByteArray) ++ ⟨#[46]⟩ ++ t = ⟨(x ++ 46 :: t.data.toList).toArray⟩ from fun x => bytes_ext (by rw [data_app, data_app]; simp)]
          go_ret
          exact ⟨ret_l (by rw [HT0.out, HT.out, HX.out, HT2.out, ← HS.out, dgw_succ wd g]), hb.alloc hb.size _⟩
end Go.Proofs.Ytioplkdmkdhnfaa
