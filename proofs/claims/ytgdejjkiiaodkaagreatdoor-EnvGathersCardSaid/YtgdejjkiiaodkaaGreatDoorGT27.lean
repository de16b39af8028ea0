/- RefEnv10 -/
import Derived.Deep.RegionHeld
import Derived.Laws.Runes
import Derived.Test.YtgdejjkiiaodkaaGreatDoorGT23
import Derived.Test.YtgdejjkiiaodkaaGreatDoorGT26
set_option linter.unusedVariables false
set_option linter.unusedSimpArgs false
set_option maxRecDepth 100000
set_option maxHeartbeats 16000000
open Go.Lib (hid)
namespace Go.Proofs.YtgdejjkiiaodkaaGreatDoor
section
open Go.RowKit Go.Sort
open Nw V12 Q6
theorem dblL_len (l : L8) : (dblL l).length ≤ 4 * l.length + 2 := by
 unfold dblL
 have := escL_len l
 simp only [List.length_append, List.length_cons, List.length_nil]
 omega
theorem data12 (a b : ByteArray) : (a ++ b).data.toList = a.data.toList ++ b.data.toList := by simp
theorem textV_step {l : List KV} {k : Nat} (h : k < l.length) : textV (l.take (k + 1)) = textV (l.take k) ++ ((l[k]'h).1 ++ 61 :: dblL (l[k]'h).2 ++ [10]) := by
 unfold textV
 rw [List.take_succ_eq_append_getElem h, List.map_append, List.flatten_append]
 simp [rowV]
theorem RDouble_s (t D : ByteArray) (W wr : World) (b o1 o2 : Nat) (x y : ByteArray) (ht : t.size ≤ 1000000) (hD : dblL t.data.toList = D.data.toList) (hb : b < wr.heap.size)
  (hS : W.cell? ⟨b, o1, none⟩ = some (.string x) ∧ W.cell? ⟨b, o2, none⟩ = some (.string y) ∧ Below wr.heap.size wr W) :
  Calls Tryz.prog 26 #[.string t] W fun e w' => e = .returned (.string D) ∧ w'.cell? ⟨b, o1, none⟩ = some (.string x) ∧ w'.cell? ⟨b, o2, none⟩ = some (.string y) ∧ Below wr.heap.size wr w' := by
 refine (RDouble_any t W ht D hD).mono ?_
 rintro e w' ⟨rfl, hb2⟩
 have hlt : b < W.heap.size := Nat.lt_of_lt_of_le hb hS.2.2.size
 exact ⟨rfl, (hb2.cell (p := ⟨b, o1, none⟩) hlt).trans hS.1, (hb2.cell (p := ⟨b, o2, none⟩) hlt).trans hS.2.1, hS.2.2.trans (hb2.mono hS.2.2.size)⟩
theorem RText12_any (v : Value) (l : List KV) (w : World) (h : VR w v l) (hl : l.length ≤ 100) (hf : ∀ p ∈ l, p.1.length ≤ 100 ∧ p.2.length ≤ 100) (T : ByteArray) (hT : textV l = T.data.toList) :
  Calls Tryz.prog 15 #[v] w fun e w' => e = .returned (.string T) ∧ Below w.heap.size w w' := by
 obtain ⟨a, cap, rfl, h1, h2, h3⟩ := h
 unfold maxLen at h2
 obtain ⟨n, hn⟩ : ∃ n, n = l.length := ⟨_, rfl⟩
 have HN : Hid (n = l.length) := hid hn
 rw [← hn] at h1 hl ⊢
 clear hn
 have H3 := hid h3
 have HF := hid hf
 have HT := hid hT
 clear h3 hf hT
 go_enter Tryz.func15, Tryz.ntmps15
 go_wp2
 go_loopw [3, 4] (fun ss i wr => ∃ (k : Nat) (sb : ByteArray), k ≤ n ∧ ss = .string sb ∧ i = .int .i64 (k : Int) ∧ sb.size ≤ 504 * k ∧ Hid (sb.data.toList = textV (l.take k)) ∧ Hid (Below w.heap.size w wr)) (fun _ i _ => n - (intOf i).toNat)
 case atStart => exact ⟨0, ⟨#[]⟩, Nat.zero_le _, rfl, rfl, Nat.le_refl _, hid rfl, hid (Below.refl _ _)⟩
 case round =>
  obtain ⟨k, sb, hk, rfl, rfl, hsb, HS, HB⟩ := hrel
  by_cases hlt : k < n
  ·have hkl : Hid (k < l.length) := hid (by have := HN.out; omega)
   rcases H3.out with ⟨e, _⟩ | ⟨b, o, rfl, h4, h5⟩
   ·exact absurd hkl.out (by rw [e]; exact Nat.not_lt_zero _)
   have hc := (HB.out.cell (p := ⟨b, o + k * 2, none⟩) h4).trans (h5 k hkl.out).1
   have hd := (HB.out.cell (p := ⟨b, o + k * 2 + 1, none⟩) h4).trans (h5 k hkl.out).2
   have hbr : Hid (b < wr.heap.size) := hid (Nat.lt_of_lt_of_le h4 HB.out.size)
   have hltz : (k : Int) < (n : Int) := by omega
   have hsz := HF.out _ (List.getElem_mem hkl.out)
   obtain ⟨X, hX⟩ : ∃ X, X = ba (l[k]'hkl.out).1 := ⟨_, rfl⟩
   obtain ⟨Y, hY⟩ : ∃ Y, Y = ba (l[k]'hkl.out).2 := ⟨_, rfl⟩
   obtain ⟨D, hD⟩ : ∃ D : ByteArray, dblL (l[k]'hkl.out).2 = D.data.toList := ⟨⟨(dblL (l[k]'hkl.out).2).toArray⟩, toList_arr.symm⟩
   have hXs : X.size ≤ 100 := by rw [hX, ba_size]; exact hsz.1
   have hYs : Y.size ≤ 100 := by rw [hY, ba_size]; exact hsz.2
   have hDs : D.size ≤ 402 := by
    have := dblL_len (l[k]'hkl.out).2
    rw [hD, len_eq] at this
    have := hsz.2
    omega
   have HST : Hid (textV (l.take (k + 1)) = textV (l.take k) ++ (X.data.toList ++ 61 :: D.data.toList ++ [10])) := hid (by rw [textV_step hkl.out, hX, ba_data, ← hD])
   have HDD : Hid (dblL Y.data.toList = D.data.toList) := hid (by rw [hY, ba_data]; exact hD)
   rw [← hX] at hc
   rw [← hY] at hd
   have hsum1 : sb.size + X.size ≤ 9223372036854775807 := by omega
   have hsum2 : sb.size + X.size + 1 ≤ 9223372036854775807 := by omega
   have hsum3 : sb.size + X.size + 1 + D.size ≤ 9223372036854775807 := by omega
   have hsum4 : sb.size + X.size + 1 + D.size + 1 ≤ 9223372036854775807 := by omega
   clear h5 hsz hX hY hD
   go_wp2
   go_region_held (fun w' => w'.cell? ⟨b, o + k * 2, none⟩ = some (.string X) ∧ w'.cell? ⟨b, o + k * 2 + 1, none⟩ = some (.string Y) ∧ Below wr.heap.size wr w') (first | exact ⟨hS1, hS2, hS3⟩ | exact ⟨hc, hd, (Below.refl _ _).drew⟩) (first | (go_at_call 26; refine (RDouble_s Y D _ wr b (o + k * 2) (o + k * 2 + 1) X Y (by omega) HDD.out hbr.out (by assumption)).mono ?_; rintro e w3 ⟨rfl, hS1, hS2, hS3⟩))
   all_goals
    go_wp2
    go_roundw
    case rel =>
     refine ⟨k + 1, _, by omega, rfl, by go_num, ?_, hid ?_, hid (HB.out.trans (hS3.mono HB.out.size))⟩
     ·rw [← len_eq, data12, data12, data12, data12]
      simp only [List.length_append, len_eq]
      show sb.size + X.size + 1 + D.size + 1 ≤ 504 * (k + 1)
      omega
     ·rw [HST.out, ← HS.out, data12, data12, data12, data12]
      simp
    case measure => simp [intOf]; omega
  ·have HE : Hid (sb = T) := hid (arr_of (by rw [HS.out, ← HT.out, show k = l.length by have := HN.out; omega, List.take_length]))
   have hltz : ¬ (k : Int) < (n : Int) := by omega
   go_wp2
   go_ret
   exact ⟨ret_str HE.out, HB.out⟩
end
end Go.Proofs.YtgdejjkiiaodkaaGreatDoor
