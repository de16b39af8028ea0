/- EnvLin -/
import Derived.Test.YtgdejjkiiaodkaaGreatDoorOT25
import Derived.Test.YtgdejjkiiaodkaaGreatDoorOT29
import Derived.Test.YtgdejjkiiaodkaaGreatDoorOT38
set_option linter.unusedVariables false
set_option linter.unusedSimpArgs false
set_option maxRecDepth 100000
set_option maxHeartbeats 16000000
open Go.Lib (hid)
namespace Go.Proofs.YtgdejjkiiaodkaaGreatDoor
section
open Go.RowKit Go.Sort
open Nw V12 Q6
theorem withoutExport_any (s q : ByteArray) (w : World) (h1 : endOk s.data.toList) (h2 : dropB s.data.toList = s.data.toList) (hq : expS s.data.toList = q.data.toList) :
  Calls Tryz.prog 53 #[.string s] w fun e w' => e = .returned (.string q) ∧ w = w' := by
 obtain ⟨z, hz⟩ : ∃ z : ByteArray, Lib.trimPrefix s.data.toList expL = z.data.toList := ⟨⟨(Lib.trimPrefix s.data.toList expL).toArray⟩, toList_arr.symm⟩
 have hzq : dropB z.data.toList = q.data.toList := by
  rw [← hz, ← dropB_lib, exp_prog h1 h2, hq]
 have HP := hid (fun w0 => trimP12 s ⟨#[101, 120, 112, 111, 114, 116, 32]⟩ z w0 hz)
 have HT := hid (fun w0 => trimL12 z q w0 hzq)
 clear hz hzq hq h1 h2
 go_enter Tryz.func53, Tryz.ntmps53
 go_wp2_with first
  | (go_at_call 78; refine (HP.out _).mono ?_; rintro e w1 ⟨rfl, rfl⟩)
  | (go_at_call 77; refine (HT.out _).mono ?_; rintro e w1 ⟨rfl, rfl⟩)
 go_ret
 exact ⟨rfl, rfl⟩
theorem parseValue_none (s : ByteArray) (w : World) (hw : SomeMax w) (hs : s.size ≤ 100000) (hend : endOk s.data.toList) (h : valW s.data.toList = none) :
  Calls Tryz.prog 54 #[.string s] w fun e w' => ∃ q, e = .returned (.tuple #[.string q, .bool false]) ∧ Below w.heap.size w w' := by
 refine (parseValue_any s w hw hs hend).mono ?_
 rintro e w' ⟨q, b, rfl, hv, hb⟩
 rw [h] at hv
 obtain rfl : b = false := hv
 exact ⟨q, rfl, hb⟩
theorem parseValue_some (s q : ByteArray) (w : World) (hw : SomeMax w) (hs : s.size ≤ 100000) (hend : endOk s.data.toList) (h : valW s.data.toList = some q.data.toList) :
  Calls Tryz.prog 54 #[.string s] w fun e w' => e = .returned (.tuple #[.string q, .bool true]) ∧ Below w.heap.size w w' := by
 refine (parseValue_any s w hw hs hend).mono ?_
 rintro e w' ⟨r, b, rfl, hv, hb⟩
 rw [h] at hv
 obtain ⟨h1, rfl⟩ : r.data.toList = q.data.toList ∧ b = true := hv
 obtain rfl := bytes_ext h1
 exact ⟨rfl, hb⟩
def PairR (o : Option KV) (k v : ByteArray) (b : Bool) : Prop := match o with | none => b = false | some p => ba p.1 = k ∧ ba p.2 = v ∧ b = true
def GivesPair (o : Option KV) (w : World) (e : Ending) (w' : World) : Prop := ∃ k v b, e = .returned (.tuple #[.agg #[.string k, .string v], .bool b]) ∧ PairR o k v b ∧ Below w.heap.size w w'
theorem parseVar_any (s : ByteArray) (w : World) (hw : SomeMax w) (hs : s.size ≤ 100000) (h1 : endOk s.data.toList) (h2 : dropB s.data.toList = s.data.toList) :
  Calls Tryz.prog 30 #[.string s] w (GivesPair (pairV (expS s.data.toList)) w) := by
 obtain ⟨u, hu⟩ : ∃ u : ByteArray, expS s.data.toList = u.data.toList := ⟨⟨(expS s.data.toList).toArray⟩, toList_arr.symm⟩
 have HX := hid (fun w0 => withoutExport_any s u w0 h1 h2 hu)
 have hue : endOk u.data.toList := by rw [← hu]; exact endOk_exp h1
 have hus : u.size ≤ 100000 := by
  have h3 := exp_prog h1 h2
  rw [hu] at h3
  have h4 : u.data.toList.length ≤ s.data.toList.length := by
   rw [← h3, dropB_lib]
   refine Nat.le_trans ((dropB_suffix _).length_le) ?_
   unfold Lib.trimPrefix
   split
   ·rw [List.length_drop]; omega
   ·exact Nat.le_refl _
  rw [len_eq, len_eq] at h4
  omega
 have h0 := (Below.refl w.heap.size w).alloc (Nat.le_refl _) (.cells #[.string ⟨#[]⟩, .string ⟨#[]⟩] 38)
 have HW := hid (hw.keep h0)
 have H0 := hid h0
 rw [hu]
 clear hu h1 h2 hw h0 hs
 obtain ⟨n, hn⟩ : ∃ n, befN 61 u.data.toList = n := ⟨_, rfl⟩
 have hnu := befN_le 61 u.data.toList
 rw [hn, len_eq] at hnu
 by_cases hf : n = u.size
 ·have HC := hid (fun w0 h0 => cut12 u ⟨#[61]⟩ u ⟨#[]⟩ false w0 h0 (by omega) (cut_no (by rw [hn, len_eq]; exact hf)))
  have HV : Hid (pairV u.data.toList = none) := hid (pair_cut (by rw [hn, len_eq]; exact hf))
  clear hn hnu hf hue hus
  go_enter Tryz.func30, Tryz.ntmps30
  go_wp2_with first
   | (go_at_call 53; refine (HX.out _).mono ?_; rintro e w1 ⟨rfl, rfl⟩)
   | (go_at_call 52; refine (HC.out _ HW.out).mono ?_; rintro e w1 ⟨rfl, b1⟩; have HB1 := hid b1; obtain ⟨hcb, hfb⟩ := bcell12 b1; have hsz := b1.size; simp only [World.size_alloc] at hsz; clear b1)
  exact bodyPost_ret (v := .tuple #[.agg #[.string ⟨#[]⟩, .string ⟨#[]⟩], .bool false]) (by simp [results, Tryz.results30, go_sem, hcb]) rfl ⟨_, _, _, rfl, by rw [HV.out]; exact rfl, ((H0.out.trans (HB1.out.mono H0.out.size)).setCell (Nat.le_refl _) _).setCell (Nat.le_refl _) _⟩
 ·have hlt : befN 61 u.data.toList < u.data.toList.length := by rw [hn, len_eq]; omega
  obtain ⟨k, hk⟩ : ∃ k : ByteArray, u.data.toList.take n = k.data.toList := ⟨⟨(u.data.toList.take n).toArray⟩, toList_arr.symm⟩
  obtain ⟨x, hx⟩ : ∃ x : ByteArray, u.data.toList.drop (n + 1) = x.data.toList := ⟨⟨(u.data.toList.drop (n + 1)).toArray⟩, toList_arr.symm⟩
  have hkm : k.size ≤ maxLen := by
   have h3 : k.size = _ := (len_eq k).symm
   rw [h3, ← hk, List.length_take, len_eq]
   unfold maxLen; omega
  have hxs : x.size ≤ 100000 := by
   have h3 : x.size = _ := (len_eq x).symm
   rw [h3, ← hx, List.length_drop, len_eq]
   omega
  have hxe : endOk x.data.toList := by rw [← hx]; exact endOk_drop hue _
  have HC := hid (fun w0 h0 => cut12 u ⟨#[61]⟩ k x true w0 h0 (by omega) (by
   show Lib.cut u.data.toList [61] = _
   rw [cut_yes hlt, hn, hk, hx]))
  obtain ⟨g, hg⟩ : ∃ g, isV k.data.toList = g := ⟨_, rfl⟩
  have HN : Hid (∀ w0, Calls Tryz.prog 37 #[.string k] w0 fun e w' => e = .returned (.bool g) ∧ Below w0.heap.size w0 w') := hid (fun w0 => by rw [← hg]; exact Variable_any k w0 hkm)
  cases g with
  | false =>
   have HV : Hid (pairV u.data.toList = none) := hid (pair_key (by rw [hn, hk]; exact hg))
   clear hn hnu hf hue hus hlt hk hx hkm hxs hxe hg
   go_enter Tryz.func30, Tryz.ntmps30
   go_wp2_with first
    | (go_at_call 53; refine (HX.out _).mono ?_; rintro e w1 ⟨rfl, rfl⟩)
    | (go_at_call 52; refine (HC.out _ HW.out).mono ?_; rintro e w1 ⟨rfl, b1⟩; have HB1 := hid b1; clear b1)
    | (go_at_call 37; refine (HN.out _).mono ?_; rintro e w2 ⟨rfl, b2⟩; have HB2 := hid (HB1.out.trans (b2.mono HB1.out.size)); obtain ⟨hcb, hfb⟩ := bcell12 HB2.out; have hsz := HB2.out.size; simp only [World.size_alloc] at hsz; clear b2)
   exact bodyPost_ret (v := .tuple #[.agg #[.string ⟨#[]⟩, .string ⟨#[]⟩], .bool false]) (by simp [results, Tryz.results30, go_sem, hcb]) rfl ⟨_, _, _, rfl, by rw [HV.out]; exact rfl, ((H0.out.trans (HB2.out.mono H0.out.size)).setCell (Nat.le_refl _) _).setCell (Nat.le_refl _) _⟩
  | true =>
   have hpv := pair_valW hlt (by rw [hn, hk]; exact hg)
   rw [hn, hk, hx] at hpv
   cases hval : valW x.data.toList with
   | none =>
    have HV : Hid (pairV u.data.toList = none) := hid (by rw [hpv, hval]; rfl)
    have HP := hid (fun w0 h0 => parseValue_none x w0 h0 hxs hxe hval)
    clear hn hnu hf hue hus hlt hk hx hkm hxs hxe hg hpv hval
    go_enter Tryz.func30, Tryz.ntmps30
    go_wp2_with first
     | (go_at_call 53; refine (HX.out _).mono ?_; rintro e w1 ⟨rfl, rfl⟩)
     | (go_at_call 52; refine (HC.out _ HW.out).mono ?_; rintro e w1 ⟨rfl, b1⟩; have HB1 := hid b1; clear b1)
     | (go_at_call 37; refine (HN.out _).mono ?_; rintro e w2 ⟨rfl, b2⟩; have HB2 := hid (HB1.out.trans (b2.mono HB1.out.size)); clear b2)
     | (go_at_call 54; refine (HP.out _ (HW.out.keep HB2.out)).mono ?_; rintro e w3 ⟨q, rfl, b3⟩; have HB3 := hid (HB2.out.trans (b3.mono HB2.out.size)); obtain ⟨hcb, hfb⟩ := bcell12 HB3.out; have hsz := HB3.out.size; simp only [World.size_alloc] at hsz; clear b3)
    exact bodyPost_ret (v := .tuple #[.agg #[.string ⟨#[]⟩, .string ⟨#[]⟩], .bool false]) (by simp [results, Tryz.results30, go_sem, hcb]) rfl ⟨_, _, _, rfl, by rw [HV.out]; exact rfl, ((H0.out.trans (HB3.out.mono H0.out.size)).setCell (Nat.le_refl _) _).setCell (Nat.le_refl _) _⟩
   | some y =>
    obtain ⟨q, rfl⟩ : ∃ q : ByteArray, q.data.toList = y := ⟨⟨y.toArray⟩, toList_arr⟩
    have HV : Hid (PairR (pairV u.data.toList) k q true) := hid (by rw [hpv, hval]; exact ⟨ba_of k, ba_of q, rfl⟩)
    have HP := hid (fun w0 h0 => parseValue_some x q w0 h0 hxs hxe hval)
    clear hn hnu hf hue hus hlt hk hx hkm hxs hxe hg hpv hval
    go_enter Tryz.func30, Tryz.ntmps30
    go_wp2_with first
     | (go_at_call 53; refine (HX.out _).mono ?_; rintro e w1 ⟨rfl, rfl⟩)
     | (go_at_call 52; refine (HC.out _ HW.out).mono ?_; rintro e w1 ⟨rfl, b1⟩; have HB1 := hid b1; clear b1)
     | (go_at_call 37; refine (HN.out _).mono ?_; rintro e w2 ⟨rfl, b2⟩; have HB2 := hid (HB1.out.trans (b2.mono HB1.out.size)); clear b2)
     | (go_at_call 54; refine (HP.out _ (HW.out.keep HB2.out)).mono ?_; rintro e w3 ⟨rfl, b3⟩; have HB3 := hid (HB2.out.trans (b3.mono HB2.out.size)); obtain ⟨hcb, hfb⟩ := bcell12 HB3.out; have hsz := HB3.out.size; simp only [World.size_alloc] at hsz; clear b3)
    exact bodyPost_ret (v := .tuple #[.agg #[.string k, .string q], .bool true]) (by simp [results, Tryz.results30, go_sem, hcb]) rfl ⟨_, _, _, rfl, HV.out, ((H0.out.trans (HB3.out.mono H0.out.size)).setCell (Nat.le_refl _) _).setCell (Nat.le_refl _) _⟩
end
end Go.Proofs.YtgdejjkiiaodkaaGreatDoor
