/- RefNod2, RefEnv1, RefEnv2 -/
import Derived.ChangeAlike
import Derived.RegionTactic
import Derived.Test.YtkcilmmaggmmoaaGreatDoorNT5
import Derived.Test.YtkcilmmaggmmoaaGreatDoorNT6
set_option linter.unusedVariables false
set_option linter.unusedSimpArgs false
set_option maxRecDepth 100000
set_option maxHeartbeats 16000000
open Go.Lib (hid)
namespace Go.Proofs.YtkcilmmaggmmoaaGreatDoor
namespace N8
end N8
namespace Nw
end Nw
namespace V12
end V12
end Go.Proofs.YtkcilmmaggmmoaaGreatDoor
namespace Go.Proofs.YtkcilmmaggmmoaaGreatDoor
section
open Go.RowKit Go.Sort
open Nw N8
theorem ba_size (l : L8) : (ba l).size = l.length := by simp [ba, ByteArray.size]
theorem rd_slice {w : World} {v : Value} {l : List L8} (h : Rd w v l) : ∃ (a : Option Addr) (cap : Nat), v = .slice a l.length cap ∧ l.length ≤ cap ∧ cap ≤ maxLen := by
 obtain ⟨a, cap, hv, h1, h2, _⟩ := h
 exact ⟨a, cap, hv, h1, h2⟩
theorem rd_at {w : World} {a : Option Addr} {n cap : Nat} {l : List L8} (h : Rd w (.slice a n cap) l) (j : Nat) (hj : j < l.length) :
  ∃ b o, a = some ⟨b, o, none⟩ ∧ b < w.heap.size ∧ w.cell? ⟨b, o + j, none⟩ = some (.string (ba (l[j]'hj))) := by
 obtain ⟨a', cap', hv, h1, h2, h3⟩ := h
 have hAe : a = a' := by injection hv
 subst hAe
 rcases h3 with ⟨h3, _⟩ | ⟨b, o, h4, h5, h6⟩
 ·subst h3; cases hj
 ·exact ⟨b, o, h4, h5, h6 j hj⟩
theorem Boxed.keys {w0 w : World} {k : Int} {t : L8} {ks : List L8} {ds : List Nd} {c0 c1 c2 c3 : Value} (h : Boxed w0 w (.mk k t ks ds) c0 c1 c2 c3) : Rd w c2 ks := h.2.2.parts.2.2.1
theorem shortL_no : ∀ {ds : List Nd} {j : Nat} (h : j < ds.length), shortT (ds[j]'h) = false → shortL ds = false
 | d :: ds, 0, _, hs => by
  have hs' : shortT d = false := hs
  rw [shortL, hs']; rfl
 | d :: ds, j + 1, h, hs => by
  have hs' : shortT (ds[j]'(Nat.lt_of_succ_lt_succ h)) = false := hs
  rw [shortL, shortL_no _ hs', Bool.and_false]
theorem shortL_all : ∀ {ds : List Nd}, (∀ (j : Nat) (h : j < ds.length), shortT (ds[j]'h) = true) → shortL ds = true
 | [], _ => rfl
 | d :: ds, h => by
  have h0 : shortT d = true := h 0 (Nat.succ_pos _)
  rw [shortL, h0, shortL_all fun j hj => h (j + 1) (Nat.succ_lt_succ hj)]; rfl
theorem keys_no {ks : List L8} {j : Nat} (h : j < ks.length) (hl : 200 < (ks[j]'h).length) : (ks.all fun k => decide (k.length ≤ 200)) = false := by
 rw [Bool.eq_false_iff]
 intro e
 have := of_decide_eq_true (List.all_eq_true.1 e _ (List.getElem_mem h))
 omega
theorem keys_all {ks : List L8} (h : ∀ (j : Nat) (hj : j < ks.length), (ks[j]'hj).length ≤ 200) : (ks.all fun k => decide (k.length ≤ 200)) = true := by
 rw [List.all_eq_true]
 intro k hk
 obtain ⟨j, hj, rfl⟩ := List.mem_iff_getElem.1 hk
 exact decide_eq_true (h j hj)
theorem Rshort_any (N : Nat) : ∀ (d : Nd), cntT d ≤ N → cntT d ≤ 1099511627776 → ∀ (r : Bool), shortT d = r → ∀ (c0 c1 c2 c3 : Value) (w : World), NdW w d c0 c1 c2 c3 →
  Calls Tryz.prog 15 #[.agg #[c0, c1, c2, c3]] w fun e w' => e = .returned (.bool r) ∧ Below w.heap.size w w' := by
 induction N with
 | zero => intro d h; have := cntT_pos d; omega
 | succ N ih =>
  intro d hN hbig r hr c0 c1 c2 c3 w hd
  cases d with
  | mk k t ks ds =>
   have HB0 := hid (Boxed.make hd)
   obtain ⟨rfl, rfl, hks, A, cap, rfl, hcap, hm, _, _⟩ := hd.parts
   obtain ⟨a, kcap, rfl, hkc, hkm⟩ := rd_slice hks
   have HIH := hid ih
   obtain ⟨n, hn⟩ : ∃ n, ds.length = n := ⟨_, rfl⟩
   have HN := hid hn
   obtain ⟨m, hmm⟩ : ∃ m, ks.length = m := ⟨_, rfl⟩
   have HM := hid hmm
   have hnl : n ≤ 1099511627776 := by have := cntL_len ds; rw [cntT] at hbig; omega
   have hcnt : 1 + cntL ds ≤ 1099511627776 := by rw [cntT] at hbig; exact hbig
   have hcN : cntL ds ≤ N := by rw [cntT] at hN; omega
   rw [shortT] at hr
   have HR0 := hid hr
   have HC := hid hcnt
   have HCN := hid hcN
   obtain ⟨T, hT⟩ : ∃ T, ba t = T := ⟨_, rfl⟩
   have HTS : Hid (T.size = t.length) := hid (by rw [← hT]; exact ba_size t)
   rw [hn] at HB0 hcap ⊢
   rw [hmm, hT] at HB0 ⊢
   rw [hmm] at hkc
   unfold maxLen at hkm
   have hm63 : m ≤ 9223372036854775807 := by omega
   clear ih hd hn hcnt hcN hT hN hbig hks hmm hr
   by_cases hlong : (200 : Int) < (T.size : Int)
   ·have HE : Hid (r = false) := hid (by rw [← HR0.out, decide_eq_false (by have := HTS.out; omega : ¬ t.length ≤ 200)]; rfl)
    go_enter Tryz.func15, Tryz.ntmps15
    go_wp2
    go_ret
    exact ⟨ret_b HE.out.symm, HB0.out.1⟩
   have HTL : Hid (decide (t.length ≤ 200) = true) := hid (decide_eq_true (by have := HTS.out; omega))
   go_enter Tryz.func15, Tryz.ntmps15
   obtain ⟨x0, x1, x2, x3⟩ := HB0.out.2.1.cells
   go_wp2
   go_loop [3] (fun si => ∃ j : Nat, j ≤ m ∧ si = .int .i64 (j : Int) ∧ Hid (∀ (i : Nat) (hi : i < ks.length), i < j → (ks[i]'hi).length ≤ 200)) (fun si => m - (intOf si).toNat)
   case atStart => exact ⟨0, Nat.zero_le _, rfl, hid fun i _ h => absurd h (Nat.not_lt_zero _)⟩
   case round =>
    obtain ⟨j, hj, rfl, HK⟩ := hrel
    by_cases hlt : j < m
    ·have hjl : j < ks.length := by rw [HM.out]; exact hlt
     have hjz : (j : Int) < (m : Int) := by omega
     obtain ⟨b, o, rfl, hb, y0⟩ := rd_at HB0.out.keys j hjl
     obtain ⟨K, hK⟩ : ∃ K, ba (ks[j]'hjl) = K := ⟨_, rfl⟩
     have HKS : Hid (K.size = (ks[j]'hjl).length) := hid (by rw [← hK]; exact ba_size _)
     rw [hK] at y0
     clear hK
     by_cases hkl : (200 : Int) < (K.size : Int)
     ·have HE : Hid (r = false) := hid (by rw [← HR0.out, keys_no hjl (by have := HKS.out; omega), Bool.and_false, Bool.false_and])
      go_wp2
      go_ret
      exact ⟨ret_b HE.out.symm, HB0.out.1⟩
     ·go_wp2
      go_round
      case rel =>
       refine ⟨j + 1, by omega, by go_num, hid fun i hi hij => ?_⟩
       rcases Nat.lt_succ_iff_lt_or_eq.1 hij with h | rfl
       ·exact HK.out i hi h
       ·have := HKS.out; omega
      case measure => simp [intOf]; omega
    ·obtain rfl : j = m := by omega
     have HKA : Hid ((ks.all fun k => decide (k.length ≤ 200)) = true) := hid (keys_all fun i hi => HK.out i hi (by rw [← HM.out]; exact hi))
     clear HK
     go_wp2
     clear x0 x1 x2 x3
     go_loopw [4] (fun si wr => ∃ i : Nat, i ≤ n ∧ si = .int .i64 (i : Int) ∧ Hid (Boxed w wr (.mk k t ks ds) (.int .i64 k) (.string T) (.slice a j kcap) (.slice A n cap)) ∧ Hid (∀ (l : Nat) (hl : l < ds.length), l < i → shortT (ds[l]'hl) = true)) (fun si _ => n - (intOf si).toNat)
     case atStart => exact ⟨0, Nat.zero_le _, rfl, HB0, hid fun i _ h => absurd h (Nat.not_lt_zero _)⟩
     case round =>
      clear HB0
      obtain ⟨i, hi, rfl, HB, HK⟩ := hrel
      obtain ⟨x0, x1, x2, x3⟩ := HB.out.2.1.cells
      by_cases hin : i < n
      ·have hil : i < ds.length := by rw [HN.out]; exact hin
       have hiz : (i : Int) < (n : Int) := by omega
       obtain ⟨b, o, e0, e1, e2, e3, rfl, hb, y0, y1, y2, y3, hnd⟩ := HB.out.2.2.kid i hil
       have hck : cntT (ds[i]'hil) ≤ cntL ds := cntL_mem (List.getElem_mem hil)
       have hcall := HIH.out (ds[i]'hil) (by have := HCN.out; omega) (by have := HC.out; omega)
       rcases Bool.eq_false_or_eq_true (shortT (ds[i]'hil)) with hs | hs
       ·have HR := hid (hcall true hs e0 e1 e2 e3 wr hnd)
        have HSS := hid hs
        clear hnd hck hcall hs
        go_wp2_with (go_at_call 15; refine HR.out.mono ?_; rintro e w2 ⟨rfl, hb2⟩)
        have HB2 := hid (HB.out.go hb2)
        clear hb2
        go_roundw
        case measure => simp [intOf]; omega
        case rel =>
         refine ⟨i + 1, by omega, by go_num, HB2, hid fun l hl hli => ?_⟩
         rcases Nat.lt_succ_iff_lt_or_eq.1 hli with h | rfl
         ·exact HK.out l hl h
         ·exact HSS.out
       ·have HR := hid (hcall false hs e0 e1 e2 e3 wr hnd)
        have HE : Hid (r = false) := hid (by rw [← HR0.out, shortL_no hil hs, Bool.and_false])
        clear hnd hck hcall hs
        go_wp2_with (go_at_call 15; refine HR.out.mono ?_; rintro e w2 ⟨rfl, hb2⟩)
        go_ret
        exact ⟨ret_b HE.out.symm, (HB.out.go hb2).1⟩
      ·obtain rfl : i = n := by omega
       have HE : Hid (r = true) := hid (by rw [← HR0.out, HTL.out, HKA.out, shortL_all fun l hl => HK.out l hl (by rw [← HN.out]; exact hl)]; rfl)
       go_wp2
       go_ret
       exact ⟨ret_b HE.out.symm, HB.out.1⟩
end
section
open Go.RowKit Go.Sort
open Nw V12
theorem last_at {l : List KV} {k : L8} {m : Nat} (h : m < l.length) (he : (l[m]'h).1 = k) (hb : ∀ j (hj : j < l.length), m < j → (l[j]'hj).1 ≠ k) : lastV l k = some (l[m]'h).2 := by
 have e : l = l.take m ++ l[m]'h :: l.drop (m + 1) := by rw [← List.drop_eq_getElem_cons h, List.take_append_drop]
 have hd : lastV (l.drop (m + 1)) k = none := last_none fun p hp => by
  obtain ⟨j, hj, rfl⟩ := List.getElem_of_mem hp
  rw [List.length_drop] at hj
  rw [List.getElem_drop]
  exact hb _ _ (by omega)
 have h1 : lastV (l[m]'h :: l.drop (m + 1)) k = some (l[m]'h).2 := by
  show (match lastV (l.drop (m + 1)) k with | some v => some v | none => if (l[m]'h).1 = k then some (l[m]'h).2 else none) = _
  rw [hd, if_pos he]
 have h2 := last_app (l.take m) (l[m]'h :: l.drop (m + 1)) k
 rw [← e, h1] at h2
 exact h2
theorem last_no {l : List KV} {k : L8} (hb : ∀ j (hj : j < l.length), (l[j]'hj).1 ≠ k) : lastV l k = none := last_none fun p hp => by
 obtain ⟨j, hj, rfl⟩ := List.getElem_of_mem hp
 exact hb j hj
def gotV (l : List KV) (k : L8) : ByteArray := ba ((lastV l k).getD [])
def gotB (l : List KV) (k : L8) : Bool := (lastV l k).isSome
theorem ret_got {l : List KV} {k : L8} {v : ByteArray} {b : Bool} (h : gotV l k = v) (h2 : gotB l k = b) : Ending.returned (.tuple #[.string v, .bool b]) = Ending.returned (.tuple #[.string (gotV l k), .bool (gotB l k)]) := by rw [h, h2]
theorem RLast_any (v : Value) (l : List KV) (s : ByteArray) (w : World) (h : VR w v l) :
  Calls Tryz.prog 32 #[v, .string s] w fun e w' => e = .returned (.tuple #[.string (gotV l s.data.toList), .bool (gotB l s.data.toList)]) ∧ w' = w := by
 obtain ⟨a, cap, rfl, h1, h2, h3⟩ := h
 unfold maxLen at h2
 obtain ⟨n, hn⟩ : ∃ n, n = l.length := ⟨_, rfl⟩
 have HN : Hid (n = l.length) := hid hn
 rw [← hn] at h1 ⊢
 clear hn
 go_enter Tryz.func32, Tryz.ntmps32
 go_wp2
 go_loopw [6] (fun i wr => ∃ z : Int, -1 ≤ z ∧ z < n ∧ i = .int .i64 z ∧ (∀ (j : Nat) (hj : j < l.length), z < j → (l[j]'hj).1 ≠ s.data.toList) ∧ wr = w) (fun i _ => (intOf i + 1).toNat)
 case atStart => exact ⟨(n : Int) - 1, by omega, by omega, by go_num, fun j hj hz => by have := HN.out; omega, rfl⟩
 case round =>
  obtain ⟨z, hz1, hz2, rfl, hall, hwr⟩ := hrel
  subst hwr
  have HA := hid hall; clear hall
  by_cases hz : z < 0
  ·have hz' : ¬ (0 : Int) ≤ z := by omega
   go_wp2
   go_ret2
   have e : lastV l s.data.toList = none := last_no fun j hj => HA.out j hj (by omega)
   exact ⟨ret_got (by unfold gotV; rw [e]; rfl) (by unfold gotB; rw [e]; rfl), rfl⟩
  ·obtain ⟨m, rfl⟩ : ∃ m : Nat, z = (m : Int) := ⟨z.toNat, by omega⟩
   have hm : Hid (m < l.length) := hid (by have := HN.out; omega)
   rcases h3 with ⟨rfl, _⟩ | ⟨b, o, rfl, h4, h5⟩
   ·exact absurd hm.out (Nat.not_lt_zero _)
   have hc := (h5 m hm.out).1
   have hd := (h5 m hm.out).2
   clear h5
   have hge : (0 : Int) ≤ (m : Int) := by omega
   by_cases he : (l[m]'hm.out).1 = s.data.toList
   ·have HE := hid he
    have b1 := str_eq_true he
    clear he
    obtain ⟨x, hx⟩ : ∃ x, x = ba (l[m]'hm.out).1 := ⟨_, rfl⟩
    obtain ⟨y, hy⟩ : ∃ y, y = ba (l[m]'hm.out).2 := ⟨_, rfl⟩
    rw [← hx] at hc b1
    rw [← hy] at hd
    have HY := hid hy
    clear hx hy
    go_wp2
    go_ret2
    have e := last_at hm.out HE.out fun j hj hlt => HA.out j hj (by omega)
    exact ⟨ret_got (by unfold gotV; rw [e, HY.out]; rfl) (by unfold gotB; rw [e]; rfl), rfl⟩
   ·have HE := hid he
    have b1 := str_eq_false he
    clear he
    generalize ba (l[m]'hm.out).1 = x at hc b1
    clear hd
    go_wp2
    go_roundw
    case rel =>
     refine ⟨(m : Int) - 1, by omega, by omega, by go_num, fun j hj hlt => ?_, trivial⟩
     by_cases hjm : j = m
     ·subst hjm; exact HE.out
     ·exact HA.out j hj (by omega)
    case measure => simp [intOf]
end
section
open Go.RowKit Go.Sort
open Nw V12
theorem ret_bl {a b : Bool} (h : a = b) : Ending.returned (.bool a) = .returned (.bool b) := by rw [h]
def fewV (l : List KV) (n : Int) : Prop := (l.length : Int) ≤ n ∧ ∀ p ∈ l, p.1.length ≤ 100 ∧ p.2.length ≤ 100
instance (l : List KV) (n : Int) : Decidable (fewV l n) := by unfold fewV; infer_instance
theorem Few12_any (v : Value) (l : List KV) (n : Int) (w : World) (h : VR w v l) (hok : KVok l) :
  Calls Tryz.prog 5 #[v, .int .i64 n] w fun e w' => e = .returned (.bool (decide (fewV l n))) ∧ w' = w := by
 obtain ⟨a, cap, rfl, h1, h2, h3⟩ := h
 unfold maxLen at h2
 by_cases hlen : (l.length : Int) ≤ n
 ·obtain ⟨N, hn⟩ : ∃ N, N = l.length := ⟨_, rfl⟩
  have HN : Hid (N = l.length) := hid hn
  rw [← hn] at h1 hlen ⊢
  clear hn
  have hnl : ¬ n < (N : Int) := by omega
  go_enter Tryz.func5, Tryz.ntmps5
  go_wp2
  go_loopw [5] (fun i wr => ∃ k : Nat, k ≤ N ∧ i = .int .i64 k ∧ (∀ j (hj : j < l.length), j < k → (l[j]'hj).1.length ≤ 100 ∧ (l[j]'hj).2.length ≤ 100) ∧ wr = w) (fun i _ => N - (intOf i).toNat)
  case atStart => exact ⟨0, Nat.zero_le _, rfl, fun j _ h => absurd h (Nat.not_lt_zero _), rfl⟩
  case round =>
   obtain ⟨k, hk, rfl, hall, hwr⟩ := hrel
   subst hwr
   have HA := hid hall; clear hall
   by_cases hlt : k < N
   ·have hl : Hid (k < l.length) := hid (by have := HN.out; omega)
    rcases h3 with ⟨rfl, _⟩ | ⟨b, o, rfl, h4, h5⟩
    ·exact absurd hl.out (Nat.not_lt_zero _)
    have hc := (h5 k hl.out).1
    have hd := (h5 k hl.out).2
    clear h5
    have hltz : (k : Int) < (N : Int) := by omega
    have HX : Hid ((ba (l[k]'hl.out).1).size = (l[k]'hl.out).1.length ∧ (ba (l[k]'hl.out).2).size = (l[k]'hl.out).2.length) := hid ⟨ba_size _, ba_size _⟩
    have hbx : (ba (l[k]'hl.out).1).size ≤ maxLen ∧ (ba (l[k]'hl.out).2).size ≤ maxLen := by
     rw [ba_size, ba_size]; exact hok _ (List.getElem_mem hl.out)
    unfold maxLen at hbx
    obtain ⟨hb1, hb2⟩ := hbx
    have hno : Hid (¬ ((l[k]'hl.out).1.length ≤ 100 ∧ (l[k]'hl.out).2.length ≤ 100) → decide (fewV l n) = false) := hid fun h => decide_eq_false fun e => h (e.2 _ (List.getElem_mem hl.out))
    generalize ba (l[k]'hl.out).1 = x at hc HX hb1
    generalize ba (l[k]'hl.out).2 = y at hd HX hb2
    clear hok
    by_cases hx : (100 : Int) < (x.size : Int)
    ·have hx2 : decide ((100 : Int) < (x.size : Int)) = true := decide_eq_true hx
     go_wp2
     go_ret
     exact ⟨ret_bl (hno.out fun e => by have := HX.out.1; omega).symm, rfl⟩
    ·have hx2 : decide ((100 : Int) < (x.size : Int)) = false := decide_eq_false hx
     by_cases hy : (100 : Int) < (y.size : Int)
     ·go_wp2
      go_ret
      exact ⟨ret_bl (hno.out fun e => by have := HX.out.2; omega).symm, rfl⟩
     ·go_wp2
      go_roundw
      case rel =>
       refine ⟨k + 1, by omega, by go_num, fun j hj hjk => ?_, trivial⟩
       rcases Nat.lt_succ_iff_lt_or_eq.1 hjk with h | rfl
       ·exact HA.out j hj h
       ·have := HX.out; exact ⟨by omega, by omega⟩
      case measure => simp [intOf]; omega
   ·go_wp2
    go_ret
    refine ⟨ret_bl (decide_eq_true ⟨by have := HN.out; omega, fun p hp => ?_⟩).symm, rfl⟩
    obtain ⟨j, hj, rfl⟩ := List.getElem_of_mem hp
    exact HA.out j hj (by have := HN.out; omega)
 ·have H : Hid (¬ fewV l n) := hid fun e => hlen e.1
  have hz : n < (l.length : Int) := by omega
  go_enter Tryz.func5, Tryz.ntmps5
  go_wp2
  go_ret
  exact ⟨ret_bl (decide_eq_false H.out).symm, rfl⟩
end
end Go.Proofs.YtkcilmmaggmmoaaGreatDoor
