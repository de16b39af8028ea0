/- EnvLst -/
import Derived.Test.YtgdejjkiiaodkaaGreatDoorPT35
import Derived.Test.YtgdejjkiiaodkaaGreatDoorPT37
set_option linter.unusedVariables false
set_option linter.unusedSimpArgs false
set_option maxRecDepth 100000
set_option maxHeartbeats 16000000
open Go.Lib (hid)
namespace Go.Proofs.YtgdejjkiiaodkaaGreatDoor
section
open Go.RowKit Go.Sort Go.Maps
open Nw V12
theorem listed_any (b n : Nat) (l : List KV) (w : World) (h : MapV w b n (okV l)) (hn : n ≤ 100000) :
  Calls Tryz.prog 20 #[.map (some b)] w fun e w' => ∃ v', e = .returned v' ∧ VR w' v' (ofV l) ∧ Below w.heap.size w w' := by
 obtain ⟨i3, hi3, hy0, hy1, hy2⟩ := infoV
 have HO := hid h
 have HSZ := hid (World.ownsMap.size_le h)
 obtain ⟨S, hS⟩ : ∃ S, Maps.size (mapD (okV l)) = S := ⟨_, rfl⟩
 have HSS := hid hS
 have hSn : S ≤ 100000 := by rw [← hS]; have := HSZ.out; omega
 have HKS : Hid (∀ w0 b0 n0, MapV w0 b0 n0 (okV l) → ∀ ss : List L8, ss.Perm (strKeys (mapD (okV l))) → ss.mergeSort leB = keysV l) := hid (fun w0 b0 n0 h ss hp => keys_sorted hp (strs_keys h))
 clear h hS hn
 go_enter Tryz.func20, Tryz.ntmps20
 go_wp2_with first
  | (go_at_call 36; refine (callsIn_wide.1 (Tryz.maps_Keys_36 _ _)).mono ?_; rintro e w4 ⟨rfl, rfl⟩)
  | (go_at_call 35; refine (callsIn_wide.1 (Tryz.slices_Sorted_keys_35_36 b n (mapD (okV l)) varR w HO.out (by rw [HSS.out]; unfold maxLen; omega) (by rw [HSS.out]; omega))).mono ?_; rintro e w5 ⟨vk, ss, rfl, hp, hrow, hnil, hb⟩; rw [show (ss.mergeSort fun x y => decide (x ≤ y)) = keysV l from HKS.out _ _ _ HO.out ss hp] at hrow; have hg := hrow.lt; obtain ⟨ak, ck, rfl, q1, q2, q3, q4⟩ := owns_read hrow; have HLT := hid hg; have Q2 := hid q2; have Q3 := hid q3; have Q4 := hid q4; have HB5 := hid hb; clear hp hrow hnil hb q2 q3 q4 hg; obtain ⟨m, hm⟩ : ∃ m, m = ss.length := ⟨_, rfl⟩; rw [← hm] at q1 Q3 Q4 HLT ⊢; clear hm)
 obtain ⟨K, hK⟩ : ∃ K : Nat, K = min m 64 := ⟨_, rfl⟩
 rw [show min (m : Int) 64 = (K : Int) by omega, show max (K : Int) 0 = (K : Int) by omega, Int.toNat_natCast]
 have hKm : K ≤ m := by omega
 have hK64 : K ≤ 64 := by omega
 have HTK : Hid ((gath l).take K = ofV l) := hid (by
  unfold ofV
  have hgl : (gath l).length = m := by rw [gath_size]; exact Q3.out
  by_cases h64 : m ≤ 64
  ·rw [List.take_of_length_le (by omega), List.take_of_length_le (by omega)]
  ·rw [show K = 64 by omega])
 have q2 := Q2.out
 unfold maxLen at q2
 have HB05 : Hid (Below w.heap.size w w5) := hid (((Below.refl _ _).alloc (Nat.le_refl _) _).trans (HB5.out.mono (by simp)))
 have HM5 : Hid (MapV w5 b n (okV l)) := hid (MapV.below (World.ownsMap.alloc HO.out _) HB5.out)
 have HGB : Hid (∀ g : Nat, ak = some ⟨g, 0, none⟩ → g < w5.heap.size) := hid (fun g hg => (HLT.out g (by rw [hg]; rfl)).2)
 obtain ⟨BO, hBO⟩ : ∃ BO, w5.heap.size = BO := ⟨_, rfl⟩
 have HBO := hid hBO
 clear hBO hK HB5 HLT HO HKS HSS HSZ
 go_loopw [4, 16] (fun v6 i wz => ∃ j : Nat, j ≤ K ∧ i = .int .i64 j ∧ Hid (wz.ownsRow BO 38 2 v6 j (cellsV ((gath l).take j))) ∧ Hid (Below BO w5 wz)) (fun _ i _ => K - (intOf i).toNat)
 case atStart => exact ⟨0, Nat.zero_le _, rfl, hid (World.ownsRow_nil _ _ _ _), hid (Below.refl _ _)⟩
 case round =>
  obtain ⟨j, hj, rfl, HO, HB⟩ := hrel
  by_cases hlt : j < K
  ·have hjk : Hid (j < (keysV l).length) := hid (by have := Q3.out; omega)
   rcases Q4.out with e | ⟨g, rfl, hgc⟩
   ·omega
   have hgl : g < BO := by have := HGB.out g rfl; rw [HBO.out] at this; exact this
   have hc := (HB.out.cell (p := ⟨g, j, none⟩) hgl).trans (hgc j hjk.out)
   clear hgc
   have hjz : (j : Int) < (K : Int) := by omega
   have hmem := mem_keys.1 (List.getElem_mem hjk.out)
   obtain ⟨y, u1, u2⟩ := last_some hmem.2
   have hlast : lastV (okV l) ((keysV l)[j]'hjk.out) = some y := by rw [okV_last, if_pos hmem.1]; exact u1
   have hlook := MapV.look (MapV.below HM5.out (by rw [HBO.out]; exact HB.out)) hlast (by have := (isV_len12 hmem.1); unfold maxLen; omega)
   have HCS : Hid (cellsV ((gath l).take (j + 1)) = cellsV ((gath l).take j) ++ [.string (ba ((keysV l)[j]'hjk.out)), .string (ba y)]) := hid (by rw [cellsV_step hjk.out]; unfold gotV; rw [u1]; rfl)
   clear hmem u1 u2 hlast
   generalize ba ((keysV l)[j]'hjk.out) = X at hc hlook HCS
   generalize ba y = Y at hlook HCS
   have hown := HO.out
   obtain ⟨XS, hXS⟩ : ∃ XS, XS = cellsV ((gath l).take j) := ⟨_, rfl⟩
   rw [← hXS] at hown HCS
   clear hXS
   go_wp2_with (at_builtin; refine wpList_append_own_at _ rfl _ _ 22 rfl BO 38 i3 _ 2 32 Tryz.underlying22 hi3 hy0 hy1 hy2 rfl (by decide) _ _ _ rfl (hown.alloc _) ⟨wr.heap.size, 0, none⟩ 1 1 [.string X, .string Y] rfl rfl ?c1 ?c2 ?c3 ?c4 ?c5 ?_)
   case c1 =>
    intro i u hi
    match i, hi with
    | 0, hi => simp at hi; subst hi; simp [Addr.add]
    | 1, hi => simp at hi; subst hi; simp [Addr.add]
   case c2 => intro u hu; simp at hu; rcases hu with rfl | rfl <;> rfl
   case c3 => unfold maxLen; omega
   case c4 => omega
   case c5 => have := HB.out.size; have := HBO.out; simp; omega
   ·intro v' w3 hown' hgrow _ _
    have HW2 := hid hown'
    have HG2 := hid hgrow
    have hbs := HB.out.size
    rw [HBO.out] at hbs
    have HB3 : Hid (Below BO w5 w3) := hid ((HB.out.alloc hbs _).grown HG2.out (by simp; omega) (fun q hq => (HO.out.lt q hq).1))
    clear hown' hgrow hown hlook
    go_wp2
    go_roundw
    case rel => exact ⟨j + 1, by omega, by go_num, by rw [HCS.out]; exact HW2, HB3⟩
    case measure => simp [intOf]; omega
  ·obtain rfl : j = K := by omega
   go_wp2
   go_ret
   have := HO.out
   rw [HTK.out] at this
   exact ⟨_, rfl, (vr_of_owns this).1, HB05.out.trans ((by have := HB.out; rw [← HBO.out] at this; exact this.mono HB05.out.size))⟩
end
end Go.Proofs.YtgdejjkiiaodkaaGreatDoor
