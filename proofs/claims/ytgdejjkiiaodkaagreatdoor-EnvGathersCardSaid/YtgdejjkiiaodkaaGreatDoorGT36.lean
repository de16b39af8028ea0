/- NamNames, EnvCol -/
import Derived.Below
import Derived.Laws.EntriesVeiled
import Derived.Maps.AppendAt
import Derived.Maps.OwnSet
import Derived.OwnWalk
import Derived.Test.YtgdejjkiiaodkaaGreatDoorGT10
import Derived.Test.YtgdejjkiiaodkaaGreatDoorGT12
import Derived.Test.YtgdejjkiiaodkaaGreatDoorGT35
set_option linter.unusedVariables false
set_option linter.unusedSimpArgs false
set_option maxRecDepth 100000
set_option maxHeartbeats 16000000
open Go.Lib (hid)
namespace Go.Proofs.YtgdejjkiiaodkaaGreatDoor
section
open Go.RowKit
open Nw
theorem Variable_any (s : ByteArray) (w : World) (hs : s.size ≤ maxLen) :
  Calls Tryz.prog 37 #[.string s] w fun e w' => e = .returned (.bool (nm v1 v2 s.data.toList)) ∧ Below w.heap.size w w' := by
 have HS := hid hs
 clear hs
 have e1 : ∀ args w, (callFunc 61 args).run Tryz.prog w = .ok (.enter 61 args) w := enters_of Tryz.func61 (by kernel_rfl) rfl
 have e2 : ∀ args w, (callFunc 65 args).run Tryz.prog w = .ok (.enter 65 args) w := enters_of Tryz.func65 (by kernel_rfl) rfl
 have HC := fun (W : World) (hc : W.cell? ⟨w.heap.size, 0, none⟩ = some (.func (.func 61) #[] #[])) =>
  isName_any s v1 v2 61 65 #[] #[.pointer (some ⟨w.heap.size, 0, none⟩)] W HS.out e1 e2 (fun c => v1_any c W) (fun c => v2_any c w.heap.size W hc)
 have HCC := hid HC
 clear HC e1 e2
 go_enter Tryz.func37, Tryz.ntmps37
 go_wp2_with (go_at_call 64; refine (HCC.out _ (by simp)).mono ?_; rintro e w' ⟨rfl, rfl⟩)
 go_ret
 refine ⟨rfl, ?_⟩
 first | exact ((Below.refl _ _).alloc (Nat.le_refl _) _).setCell (Nat.le_refl _) _ | exact (Below.refl _ _).alloc (Nat.le_refl _) _
end
section
open Go.RowKit Go.Sort Go.Maps
open Nw V12
theorem okV_step {l : List KV} {k : Nat} (h : k < l.length) : okV (l.take (k + 1)) = if isV (l[k]'h).1 then okV (l.take k) ++ [l[k]'h] else okV (l.take k) := by
 unfold okV
 rw [List.take_succ_eq_append_getElem h, List.filter_append]
 by_cases hv : isV (l[k]'h).1 = true
 ·rw [if_pos hv]; simp [List.filter, hv]
 ·have : isV (l[k]'h).1 = false := by simpa using hv
  rw [if_neg hv]; simp [List.filter, this]
theorem strs_keys {w : World} {b n : Nat} {l : List KV} (h : MapV w b n l) : ∀ p, ∀ es, mapD l = .map es → p ∈ es → ∃ x, p.1 = .string x := by
 intro p es he hp
 obtain ⟨es2, h1, h2⟩ := World.ownsMap.keysOf h
 rw [he] at h1
 injection h1 with h1
 subst h1
 obtain ⟨key, hk⟩ := h2 p hp
 obtain ⟨x, _, hx, _⟩ := Maps.keyOf_str Tryz.underlying9 hk
 exact ⟨x, hx⟩
theorem isV_len12 {k : L8} (h : isV k = true) : 0 < k.length ∧ k.length ≤ 24 := by
 have h1 : 0 < k.length ∧ k.length ≤ 24 ∧ Nw.good v1 v2 k k.length := of_decide_eq_true h
 exact ⟨h1.1, h1.2.1⟩
theorem mapV_new (w : World) : MapV (w.alloc (.map #[] 0)) w.heap.size 0 [] := World.ownsMap_made _ _ _ _
theorem collected_any (v : Value) (l : List KV) (w : World) (h : VR w v l) (hok : KVk l) (hbig : l.length ≤ 100000) :
  Calls Tryz.prog 21 #[v] w fun e w' => e = .returned (.map (some w.heap.size)) ∧ MapV w' w.heap.size l.length (okV l) ∧ Below w.heap.size w w' := by
 have HVar : ∀ (s : ByteArray) (w : World), s.size ≤ maxLen → Calls Tryz.prog 37 #[.string s] w fun e w' => e = .returned (.bool (isV s.data.toList)) ∧ Below w.heap.size w w' := fun s w hs => Variable_any s w hs
 obtain ⟨i3, hi3, hy0, hy1, hy2⟩ := infoV
 obtain ⟨a, cap, rfl, h1, h2, h3⟩ := h
 unfold maxLen at h2
 obtain ⟨n, hn⟩ : ∃ n, n = l.length := ⟨_, rfl⟩
 have HN : Hid (n = l.length) := hid hn
 rw [← hn] at h1 hbig ⊢
 clear hn
 have H3 := hid h3
 have HOK := hid hok
 have HV := hid HVar
 clear h3 hok HVar
 have hmm := @run_makeMap Tryz.prog
 have HM0 := hid (mapV_new w)
 go_enter Tryz.func21, Tryz.ntmps21
 go_wp2
 go_loopw [9] (fun i wr => ∃ k : Nat, k ≤ n ∧ i = .int .i64 k ∧ Hid (MapV wr w.heap.size k (okV (l.take k))) ∧ Hid (Below w.heap.size w wr)) (fun i _ => n - (intOf i).toNat)
 case atStart => exact ⟨0, Nat.zero_le _, rfl, HM0, hid ((Below.refl _ _).alloc (Nat.le_refl _) _)⟩
 case round =>
  obtain ⟨k, hk, rfl, HO, HB⟩ := hrel
  by_cases hlt : k < n
  ·have hl : Hid (k < l.length) := hid (by have := HN.out; omega)
   rcases H3.out with ⟨e, _⟩ | ⟨b, o, rfl, h4, h5⟩
   ·exact absurd hl.out (by rw [e]; exact Nat.not_lt_zero _)
   have hc := (HB.out.cell (p := ⟨b, o + k * 2, none⟩) h4).trans (h5 k hl.out).1
   have hd := (HB.out.cell (p := ⟨b, o + k * 2 + 1, none⟩) h4).trans (h5 k hl.out).2
   clear h5
   have hltz : (k : Int) < (n : Int) := by omega
   have hsz : (ba (l[k]'hl.out).1).size ≤ maxLen := by rw [ba_size']; exact HOK.out _ (List.getElem_mem hl.out)
   have HC := hid (fun w0 => HV.out (ba (l[k]'hl.out).1) w0 hsz)
   rw [ba_data] at HC
   have hkey := key_ok (HOK.out _ (List.getElem_mem hl.out))
   have hval := varR_mk (l[k]'hl.out)
   have HS := hid (okV_step hl.out)
   have hkm : k < maxLen := by unfold maxLen; omega
   obtain ⟨p, hp⟩ : ∃ p, p = l[k]'hl.out := ⟨_, rfl⟩
   rw [← hp] at hc hd HC hkey hval HS
   clear hp hsz
   obtain ⟨x, y⟩ := p
   simp only [] at hc hd HC hkey hval HS
   have HKE := hid hkey
   have HVA := hid hval
   clear hkey hval
   generalize hb : isV x = bb at HC HS
   have HX := hid hb
   clear hb
   cases bb with
   | false =>
    have e := HS.out
    simp only [Bool.false_eq_true, if_false] at e
    have HE := hid e
    clear e
    generalize ba x = X at hc HC HKE HVA
    generalize ba y = Y at hd HVA
    go_wp2_with (go_at_call 37; refine (HC.out _).mono ?_; rintro e w2 ⟨rfl, b2⟩)
    go_roundw
    case rel => exact ⟨k + 1, by omega, by go_num, by rw [HE.out]; exact hid (MapV.below (World.ownsMap.alloc (World.ownsMap.mono HO.out (Nat.le_succ k)) _) b2), hid ((HB.out.alloc HB.out.size _).trans (b2.mono (HB.out.alloc HB.out.size _).size))⟩
    case measure => simp [intOf]; omega
   | true =>
    have e := HS.out
    simp only [if_true] at e
    have e2 := mapD_snoc (okV (l.take k)) (x, y)
    rw [← e] at e2
    have HE := hid e2
    clear e e2
    obtain ⟨X, hX⟩ : ∃ X, X = ba x := ⟨_, rfl⟩
    obtain ⟨Y, hY⟩ : ∃ Y, Y = ba y := ⟨_, rfl⟩
    rw [← hX] at hc HC HKE HVA
    rw [← hY] at hd HVA
    clear hX hY
    go_wp2_with first
     | (go_at_call 37; refine (HC.out _).mono ?_; rintro e w2 ⟨rfl, b2⟩; obtain ⟨hcb, hfb⟩ := bcellM b2; have HO2 := hid (MapV.below (World.ownsMap.alloc HO.out _) b2); have HB2 := hid ((HB.out.alloc HB.out.size _).trans (b2.mono (HB.out.alloc HB.out.size _).size)); clear b2)
     | (at_mapUpdate; refine wpList_mapUpdate_own _ rfl _ _ _ 43 rfl 9 38 lawS Tryz.underlying43 varR w.heap.size k _ rfl HO2.out hkm _ _ _ rfl rfl HKE.out _ [] HVA.out ?_; intro w3 hown3 hgrow3; have HO3 := hid hown3; have HB3 := hid (HB2.out.grown hgrow3 HB2.out.size (fun j hj => by cases hj; exact Nat.le_refl _)); clear hown3 hgrow3 hcb hfb)
    go_roundw
    case rel =>
     refine ⟨k + 1, by omega, by go_num, ?_, HB3⟩
     unfold MapV
     rw [HE.out]
     exact HO3
    case measure => simp [intOf]; omega
  ·have e : l.take k = l := by rw [show k = l.length by have := HN.out; omega]; exact List.take_length
   rw [e] at HO
   have hkz : ¬ (k : Int) < (n : Int) := by omega
   have hkn : k = n := by omega
   subst hkn
   clear e hlt
   go_wp2
   go_ret
   exact ⟨rfl, HO.out, HB.out⟩
end
end Go.Proofs.YtgdejjkiiaodkaaGreatDoor
