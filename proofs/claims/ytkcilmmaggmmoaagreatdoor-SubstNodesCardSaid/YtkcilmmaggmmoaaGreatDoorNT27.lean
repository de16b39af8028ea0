/- RefEnv3 -/
import Derived.Test.YtkcilmmaggmmoaaGreatDoorNT6
import Derived.Test.YtkcilmmaggmmoaaGreatDoorNT7
set_option linter.unusedVariables false
set_option linter.unusedSimpArgs false
set_option maxRecDepth 100000
set_option maxHeartbeats 16000000
open Go.Lib (hid)
namespace Go.Proofs.YtkcilmmaggmmoaaGreatDoor
namespace Nw
end Nw
namespace V12
end V12
end Go.Proofs.YtkcilmmaggmmoaaGreatDoor
namespace Go.Proofs.YtkcilmmaggmmoaaGreatDoor
section
open Go.RowKit Go.Sort
open Nw V12
theorem ownsV_lower {w : World} {base base' n size : Nat} {e : TypeId} {v : Value} {xs : List Value} (h : w.ownsRow base e size v n xs) (hb : base' ≤ base) : w.ownsRow base' e size v n xs := by
 refine ⟨h.1, ?_⟩
 rcases h.2 with h0 | ⟨g, cap, cur, h1, h2, h3⟩
 ·exact .inl h0
 ·exact .inr ⟨g, cap, cur, h1, Nat.le_trans hb h2, h3⟩
def KVk (l : List KV) : Prop := ∀ p ∈ l, p.1.length ≤ maxLen
def keysOf (l : List KV) : List L8 := (l.map (·.1)).filter isV
theorem keysOf_step {l : List KV} {k : Nat} (h : k < l.length) : keysOf (l.take (k + 1)) = if isV (l[k]'h).1 then keysOf (l.take k) ++ [(l[k]'h).1] else keysOf (l.take k) := by
 unfold keysOf
 rw [List.take_succ_eq_append_getElem h, List.map_append, List.filter_append]
 by_cases hv : isV (l[k]'h).1 = true
 ·rw [if_pos hv]; simp [List.filter, hv]
 ·have : isV (l[k]'h).1 = false := by simpa using hv
  rw [if_neg hv]; simp [List.filter, this]
theorem keysOf_le (l : List KV) : (keysOf l).length ≤ l.length := by
 unfold keysOf
 refine Nat.le_trans (List.length_filter_le _ _) ?_
 rw [List.length_map]; exact Nat.le_refl _
theorem keysOf_take (l : List KV) (k : Nat) : (keysOf (l.take k)).length ≤ k := Nat.le_trans (keysOf_le _) (by rw [List.length_take]; omega)
theorem gath_at {l : List KV} {k : Nat} (h : k < (keysV l).length) (h2 : k < (gath l).length) : (gath l)[k]'h2 = ((keysV l)[k]'h, (lastV l ((keysV l)[k]'h)).getD []) := by
 simp only [gath, List.getElem_map]
theorem gath_size (l : List KV) : (gath l).length = (keysV l).length := by unfold gath; rw [List.length_map]
theorem cellsV_step {l : List KV} {k : Nat} (h : k < (keysV l).length) : cellsV ((gath l).take (k + 1)) = cellsV ((gath l).take k) ++ [.string (ba ((keysV l)[k]'h)), .string (gotV l ((keysV l)[k]'h))] := by
 have h2 : k < (gath l).length := by rw [gath_size]; exact h
 rw [List.take_succ_eq_append_getElem h2, cellsV_snoc, gath_at h h2]
 rfl
theorem sort_keys (l : List KV) : sortL (keysOf l) = keysV l := rfl
theorem RGathered_own (v : Value) (l : List KV) (w : World) (h : VR w v l) (hok : KVk l) (hbig : l.length ≤ 100000) :
  Calls Tryz.prog 17 #[v] w fun e w' => ∃ v', e = .returned v' ∧ w'.ownsRow w.heap.size 41 2 v' (gath l).length (cellsV (gath l)) ∧ Below w.heap.size w w' := by
 obtain ⟨i0, hi, hz0, hz1, hz2⟩ := infoS
 obtain ⟨i3, hi3, hy0, hy1, hy2⟩ := infoV
 have HV := hid h
 obtain ⟨a, cap, rfl, h1, h2, h3⟩ := h
 unfold maxLen at h2
 obtain ⟨n, hn⟩ : ∃ n, n = l.length := ⟨_, rfl⟩
 have HN : Hid (n = l.length) := hid hn
 rw [← hn] at h1 hbig HV ⊢
 clear hn
 have H3 := hid h3
 have HOK := hid hok
 have HGS := hid (gath_size l)
 have HK0 := hid (own_literal w w.heap.size (Nat.le_refl _))
 clear h3 hok
 go_enter Tryz.func17, Tryz.ntmps17
 go_wp2
 go_loopw [3, 4] (fun v3 i wr => ∃ k : Nat, k ≤ n ∧ i = .int .i64 k ∧ Hid (wr.ownsRow w.heap.size 9 1 v3 (keysOf (l.take k)).length ((keysOf (l.take k)).map encStr)) ∧ Hid (Below w.heap.size w wr)) (fun _ i _ => n - (intOf i).toNat)
 case atStart => exact ⟨0, Nat.zero_le _, rfl, HK0, hid ((Below.refl _ _).alloc (Nat.le_refl _) _)⟩
 case round =>
  obtain ⟨k, hk, rfl, HO, HB⟩ := hrel
  by_cases hlt : k < n
  ·have hl : Hid (k < l.length) := hid (by have := HN.out; omega)
   rcases H3.out with ⟨e, _⟩ | ⟨b, o, rfl, h4, h5⟩
   ·exact absurd hl.out (by rw [e]; exact Nat.not_lt_zero _)
   have hc := (HB.out.cell (p := ⟨b, o + k * 2, none⟩) h4).trans (h5 k hl.out).1
   clear h5
   have hltz : (k : Int) < (n : Int) := by omega
   have hsz : (ba (l[k]'hl.out).1).size ≤ maxLen := by rw [ba_size]; exact HOK.out _ (List.getElem_mem hl.out)
   have HS : Hid (keysOf (l.take (k + 1)) = if isV (l[k]'hl.out).1 then keysOf (l.take k) ++ [(l[k]'hl.out).1] else keysOf (l.take k)) := hid (keysOf_step hl.out)
   have HKL := hid (keysOf_take l k)
   obtain ⟨T, hT⟩ : ∃ T, T = keysOf (l.take k) := ⟨_, rfl⟩
   rw [← hT] at HO HS HKL
   clear hT
   have HC := hid (fun w0 => RVariable_any (ba (l[k]'hl.out).1) w0 hsz)
   rw [ba_data] at HC
   change Hid (∀ w0 : World, Calls Tryz.prog 31 #[.string (ba (l[k]'hl.out).1)] w0 fun e w' => e = .returned (.bool (isV (l[k]'hl.out).1)) ∧ w0 = w') at HC
   clear hsz
   generalize (l[k]'hl.out).1 = x at hc HS HC
   generalize hb : isV x = bb at HC HS
   clear hb
   obtain ⟨X, hX⟩ : ∃ X, X = ba x := ⟨_, rfl⟩
   have HX := hid hX
   rw [← hX] at hc HC
   clear hX
   cases bb with
   | false =>
    go_wp2_with (go_at_call 31; refine (HC.out _).mono ?_; rintro e w2 ⟨rfl, rfl⟩)
    go_roundw
    case rel =>
     have e := HS.out
     simp only [Bool.false_eq_true, if_false] at e
     exact ⟨k + 1, by omega, by go_num, by rw [e]; exact HO, HB⟩
    case measure => simp [intOf]; omega
   | true =>
    have hown := HO.out
    obtain ⟨m, hm⟩ : ∃ m, m = T.length := ⟨_, rfl⟩
    have HM := hid hm
    rw [← hm] at hown HKL
    have hkl := HKL.out
    obtain ⟨XS, hXS⟩ : ∃ XS, XS = T.map encStr := ⟨_, rfl⟩
    rw [← hXS] at hown
    have HXS := hid hXS
    clear hm hXS
    go_wp2_with first
     | (go_at_call 31; refine (HC.out _).mono ?_; rintro e w2 ⟨rfl, rfl⟩)
     | (at_builtin; refine wpList_append_own _ rfl _ _ 22 rfl w.heap.size 9 i0 _ 1 16 Tryz.underlying22 hi hz0 hz1 hz2 rfl (by decide) _ _ _ rfl (hown.alloc _) ⟨wr.heap.size, 0, none⟩ 1 1 [.string X] rfl rfl ?c1 ?c2 ?c3 ?c4 ?c5 ?_)
    case c1 =>
     intro j u hj
     match j, hj with
     | 0, hj => simp at hj; subst hj; simp [Addr.add]
    case c2 => intro u hu; simp at hu; subst hu; rfl
    case c3 => unfold maxLen; omega
    case c4 => omega
    case c5 => have := HB.out.size; simp; omega
    ·intro v' w2 hown' hgrow _
     have HW2 := hid hown'
     have HG2 := hid hgrow
     clear hown' hgrow hown
     go_wp2
     go_roundw
     case rel =>
      have e := HS.out
      simp only [if_true] at e
      refine ⟨k + 1, by omega, by go_num, ?_, ?_⟩
      ·rw [e, List.length_append, List.map_append, ← HM.out, ← HXS.out]
       have := HW2.out
       rw [HX.out] at this
       exact hid this
      ·refine hid ((HB.out.alloc HB.out.size _).grown HG2.out (by have := HB.out.size; simp; omega) ?_)
       intro p hp
       exact (HO.out.lt p hp).1
     case measure => simp [intOf]; omega
  ·have e : l.take k = l := by rw [show k = l.length by have := HN.out; omega]; exact List.take_length
   rw [e] at HO
   have hkz : ¬ (k : Int) < (n : Int) := by omega
   clear e hlt
   have hle : (keysOf l).length ≤ 4398046511103 := by have := keysOf_le l; have := HN.out; omega
   have HS := RSorted_own _ _ _ (rd_of_owns HO.out) hle
   rw [sort_keys] at HS
   have HS := hid HS
   clear hle
   go_wp2_with (go_at_call 29; refine HS.out.mono ?_; rintro e w1 ⟨v1, rfl, o1, b1⟩)
   have HB1 : Hid (Below w.heap.size w w1) := hid (HB.out.trans (b1.mono HB.out.size))
   have hkl : (keysV l).length ≤ n := by rw [← HGS.out]; have := gath_len l; have := HN.out; omega
   obtain ⟨ks, hks⟩ : ∃ ks, ks = keysV l := ⟨_, rfl⟩
   have HKS := hid hks
   rw [← hks] at o1 hkl HGS
   clear hks b1 HS HO HB HK0 hkz
   obtain ⟨a1, cap1, rfl, k1, k2, k3, k4⟩ := owns_read o1
   clear o1
   unfold maxLen at k2
   obtain ⟨m, hm⟩ : ∃ m, m = ks.length := ⟨_, rfl⟩
   have HM := hid hm
   have k5 : m = 0 ∨ ∃ g, a1 = some ⟨g, 0, none⟩ ∧ ∀ j (hj : j < ks.length), w1.cell? ⟨g, j, none⟩ = some (.string (ba ks[j])) := by rw [hm]; exact k4
   rw [← hm] at k1 hkl HGS
   clear hm k3 k4
   have K4 := hid k5
   clear k5
   have HG0 := hid (ownV_literal w1 w1.heap.size (Nat.le_refl _))
   have HV1 : Hid (VR w1 (.slice a n cap) l) := hid (HV.out.below HB1.out)
   rw [← HM.out]
   go_wp2
   go_loopw [5, 6] (fun v5 i wz => ∃ j : Nat, j ≤ m ∧ i = .int .i64 j ∧ Hid (wz.ownsRow w1.heap.size 41 2 v5 j (cellsV ((gath l).take j))) ∧ Hid (Below w1.heap.size w1 wz)) (fun _ i _ => m - (intOf i).toNat)
   case atStart => exact ⟨0, Nat.zero_le _, rfl, HG0, hid ((Below.refl _ _).alloc (Nat.le_refl _) _)⟩
   case round =>
    obtain ⟨j, hj, rfl, HO, HB⟩ := hrel
    by_cases hlt : j < m
    ·have hjk : Hid (j < ks.length) := hid (by have := HM.out; omega)
     rcases K4.out with e | ⟨g, rfl, k5⟩
     ·omega
     have hc : wr.cell? ⟨g, j, none⟩ = some (.string (ba (ks[j]'hjk.out))) := by
      have := k5 j hjk.out
      exact (HB.out.cell (p := ⟨g, j, none⟩) (cellV_lt this)).trans this
     clear k5
     have hjz : (j : Int) < (m : Int) := by omega
     have HCS : Hid (cellsV ((gath l).take (j + 1)) = cellsV ((gath l).take j) ++ [.string (ba (ks[j]'hjk.out)), .string (gotV l (ks[j]'hjk.out))]) := hid (by
      have hq : j < (keysV l).length := by rw [← HKS.out]; exact hjk.out
      rw [cellsV_step hq]
      simp only [HKS.out])
     have HL := hid (RLast_any _ l (ba (ks[j]'hjk.out)) _ (HV1.out.below HB.out))
     rw [ba_data] at HL
     generalize ks[j]'hjk.out = x at hc HCS HL
     obtain ⟨X, hX⟩ : ∃ X, X = ba x := ⟨_, rfl⟩
     obtain ⟨Y, hY⟩ : ∃ Y, Y = gotV l x := ⟨_, rfl⟩
     rw [← hX] at hc HCS HL
     rw [← hY] at HCS HL
     clear hX hY
     generalize gotB l x = bb at HL
     have hown := HO.out
     obtain ⟨XS, hXS⟩ : ∃ XS, XS = cellsV ((gath l).take j) := ⟨_, rfl⟩
     rw [← hXS] at hown HCS
     clear hXS
     go_wp2_with first
      | (go_at_call 32; refine HL.out.mono ?_; rintro e w2 ⟨rfl, rfl⟩)
      | (at_builtin; refine wpList_append_own _ rfl _ _ 26 rfl w1.heap.size 41 i3 _ 2 32 Tryz.underlying26 hi3 hy0 hy1 hy2 rfl (by decide) _ _ _ rfl (hown.alloc _) ⟨w2.heap.size, 0, none⟩ 1 1 [.string X, .string Y] rfl rfl ?c1 ?c2 ?c3 ?c4 ?c5 ?_)
     case c1 =>
      intro i u hi
      match i, hi with
      | 0, hi => simp at hi; subst hi; simp [Addr.add]
      | 1, hi => simp at hi; subst hi; simp [Addr.add]
     case c2 => intro u hu; simp at hu; rcases hu with rfl | rfl <;> rfl
     case c3 => unfold maxLen; omega
     case c4 => omega
     case c5 => have := HB.out.size; simp; omega
     ·intro v' w3 hown' hgrow _
      have HW2 := hid hown'
      have HG2 := hid hgrow
      clear hown' hgrow hown
      go_wp2
      go_roundw
      case rel =>
       refine ⟨j + 1, by omega, by go_num, ?_, ?_⟩
       ·rw [HCS.out]; exact HW2
       ·refine hid ((HB.out.alloc HB.out.size _).grown HG2.out (by have := HB.out.size; simp; omega) ?_)
        intro p hp
        exact (HO.out.lt p hp).1
      case measure => simp [intOf]; omega
    ·obtain rfl : j = m := by omega
     go_wp2
     go_ret
     refine ⟨_, rfl, ?_, HB1.out.trans (HB.out.mono HB1.out.size)⟩
     have e : (gath l).take j = gath l := by rw [← HGS.out]; exact List.take_length
     have := HO.out
     rw [e] at this
     rw [HGS.out]
     exact ownsV_lower this HB1.out.size
end
end Go.Proofs.YtkcilmmaggmmoaaGreatDoor
