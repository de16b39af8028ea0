/- EnvPrs -/
import Derived.Test.YtgdejjkiiaodkaaGreatDoorGT37
import Derived.Test.YtgdejjkiiaodkaaGreatDoorGT39
set_option linter.unusedVariables false
set_option linter.unusedSimpArgs false
set_option maxRecDepth 100000
set_option maxHeartbeats 16000000
open Go.Lib (hid)
namespace Go.Proofs.YtgdejjkiiaodkaaGreatDoor
section
open Go.RowKit Go.Sort Go.Maps
open Nw V12 Q6
theorem map_size12 {w : World} {b n : Nat} {l : List KV} (h : MapV w b n (okV l)) : Maps.size (mapD (okV l)) = (gath l).length := by
 have h1 := keys_sorted (List.Perm.refl _) (strs_keys h)
 have h2 : (strKeys (mapD (okV l))).length = (keysV l).length := by rw [← h1, List.length_mergeSort]
 rw [gath_size, ← h2]
 cases mapD (okV l) with
 | map es => exact (List.length_map ..).symm
 | _ => rfl
theorem Of_any (v : Value) (l : List KV) (w : World) (h : VR w v l) (hok : KVk l) (hbig : l.length ≤ 100000) :
  Calls Tryz.prog 12 #[v] w fun e w' => ∃ v', e = .returned v' ∧ VR w' v' (ofV l) ∧ Below w.heap.size w w' := by
 have HC := hid (collected_any v l w h hok hbig)
 clear h hok
 go_enter Tryz.func12, Tryz.ntmps12
 go_wp2_with first
  | (go_at_call 21; refine HC.out.mono ?_; rintro e w1 ⟨rfl, h1, b1⟩; have H1 := hid h1; have B1 := hid b1; clear h1 b1)
  | (go_at_call 20; refine (listed_any _ _ _ _ H1.out hbig).mono ?_; rintro e w2 ⟨v2, rfl, h2, b2⟩; have H2 := hid h2; have B2 := hid b2; clear h2 b2)
 go_ret
 exact ⟨_, rfl, H2.out, B1.out.trans (B2.out.mono B1.out.size)⟩
def Rows12 (rows : List ByteArray) (w w' : World) : Prop := Below w.heap.size w w' ∧ w.heap.size + 1 ≤ w'.heap.size ∧ w'.heap[w.heap.size]? = some (.cells (rows.map Value.string).toArray 9 (0, 0))
theorem Rows12.go {rows : List ByteArray} {w w1 w2 : World} (h : Rows12 rows w w1) (hb : Below w1.heap.size w1 w2) : Rows12 rows w w2 :=
 ⟨h.1.trans (hb.mono h.1.size), Nat.le_trans h.2.1 hb.size, (hb.block _ (Nat.lt_of_lt_of_le (Nat.lt_succ_self _) h.2.1)).trans h.2.2⟩
theorem Rows12.grown {rows : List ByteArray} {w w1 w2 : World} {row : Option Nat} (h : Rows12 rows w w1) (hg : w1.grownBy w2 row) (hr : ∀ q, row = some q → w.heap.size + 1 ≤ q) : Rows12 rows w w2 :=
 ⟨h.1.grown hg h.1.size (fun q hq => by have := hr q hq; omega), Nat.le_trans h.2.1 hg.size, (hg.block _ (Nat.lt_of_lt_of_le (Nat.lt_succ_self _) h.2.1) (fun e => by have := hr _ e.symm; omega)).trans h.2.2⟩
theorem Rows12.at_ {rows : List ByteArray} {w w1 : World} (h : Rows12 rows w w1) (k : Nat) (hk : k < rows.length) : w1.cell? ⟨w.heap.size, k, none⟩ = some (.string (rows[k]'hk)) := by
 rw [cell_of_row w1 w.heap.size k _ 9 (0, 0) h.2.2, List.getElem?_toArray, List.getElem?_map, List.getElem?_eq_getElem hk]; rfl
theorem split12 (s : ByteArray) (w : World) (hw : SomeMax w) (hs : s.size ≤ 100000) : ∃ rows : List ByteArray, rows.map (·.data.toList) = rows12 s.data.toList ∧ 0 < rows.length ∧ rows.length ≤ s.size + 1 ∧
  Calls Tryz.prog 27 #[.string s, .string ⟨#[10]⟩] w fun e w' => e = .returned (.slice (some ⟨w.heap.size, 0, none⟩) rows.length rows.length) ∧ Rows12 rows w w' := by
 obtain ⟨m, hm⟩ := hw
 refine ⟨Lib.splitB ⟨#[10]⟩ 0 (Lib.countB s ⟨#[10]⟩) s, ?_, ?_, ?_, ?_⟩
 ·rw [Lib.splitB_data]; exact rows12_split _
 ·rw [Lib.splitB_all ⟨#[10]⟩ (by decide) 0 _ s rfl]; exact Nat.succ_pos _
 ·rw [Lib.splitB_all ⟨#[10]⟩ (by decide) 0 _ s rfl]
  have := Lib.countB_le ⟨#[10]⟩ (by decide) s.size s (Nat.le_refl _)
  omega
 ·rw [Lib.splitB_all ⟨#[10]⟩ (by decide) 0 _ s rfl]
  refine (Tryz.strings_Split s ⟨#[10]⟩ m w (by omega) hm (by decide)).mono ?_
  rintro e w' ⟨rfl, rfl⟩
  exact ⟨rfl, (Below.refl _ _).alloc (Nat.le_refl _) _, by simp, row_new w _⟩
theorem runV_skip {no : Nat} {acc : List KV} {r : L8} {rs : List L8} (h : lineV r = some none) : runV no acc (r :: rs) = runV (no + 1) acc rs := by
 rw [runV, h]
 show runV (no + 1) (acc ++ []) rs = _
 rw [List.append_nil]
theorem runV_bad {no : Nat} {acc : List KV} {r : L8} {rs : List L8} (h : lineV r = none) : runV no acc (r :: rs) = ([], no + 1, 3) := by rw [runV, h]
theorem runV_add {no : Nat} {acc : List KV} {r : L8} {rs : List L8} {p : KV} (h : lineV r = some (some p)) : runV no acc (r :: rs) = runV (no + 1) (acc ++ [p]) rs := by rw [runV, h]; rfl
theorem parseVar_none (s : ByteArray) (w : World) (hw : SomeMax w) (hs : s.size ≤ 100000) (h1 : endOk s.data.toList) (h2 : dropB s.data.toList = s.data.toList) (h : pairV (expS s.data.toList) = none) :
  Calls Tryz.prog 30 #[.string s] w fun e w' => ∃ k v, e = .returned (.tuple #[.agg #[.string k, .string v], .bool false]) ∧ Below w.heap.size w w' := by
 refine (parseVar_any s w hw hs h1 h2).mono ?_
 rintro e w' ⟨k, v, b, rfl, hv, hb⟩
 rw [h] at hv
 obtain rfl : b = false := hv
 exact ⟨k, v, rfl, hb⟩
theorem parseVar_some (s X Y : ByteArray) (p : KV) (w : World) (hw : SomeMax w) (hs : s.size ≤ 100000) (h1 : endOk s.data.toList) (h2 : dropB s.data.toList = s.data.toList) (h : pairV (expS s.data.toList) = some p) (hX : ba p.1 = X) (hY : ba p.2 = Y) :
  Calls Tryz.prog 30 #[.string s] w fun e w' => e = .returned (.tuple #[.agg #[.string X, .string Y], .bool true]) ∧ Below w.heap.size w w' := by
 refine (parseVar_any s w hw hs h1 h2).mono ?_
 rintro e w' ⟨k, v, b, rfl, hv, hb⟩
 rw [h] at hv
 obtain ⟨e1, e2, rfl⟩ : ba p.1 = k ∧ ba p.2 = v ∧ b = true := hv
 exact ⟨by rw [← e1, ← e2, hX, hY], hb⟩
theorem Parse_any12 (s : ByteArray) (w : World) (hw : SomeMax w) (hs : s.size ≤ 100000) : Calls Tryz.prog 16 #[.string s] w (GivesPar (parV s.data.toList) w) := by
 have HLEN := hid (len_eq s)
 by_cases hlen : (8192 : Int) < (s.size : Int)
 ·have HP : Hid (parV s.data.toList = ([], 0, 9)) := hid (par_long (by rw [HLEN.out]; omega))
  clear hw
  go_enter Tryz.func16, Tryz.ntmps16
  go_wp2
  go_ret3
  rw [HP.out]
  exact ⟨_, rfl, vr_nil _ none 0 (Nat.zero_le _) (fun _ => rfl), Below.refl _ _⟩
 obtain ⟨i3, hi3, hy0, hy1, hy2⟩ := infoV
 obtain ⟨rows, hrows, hpos, hrl, hcall⟩ := split12 s w hw hs
 obtain ⟨R, hR⟩ : ∃ R, parV s.data.toList = R := ⟨_, rfl⟩
 rw [hR]
 have hwalk : runV 0 [] (rows.map (·.data.toList)) = R := by
  rw [hrows, ← par_run (by rw [HLEN.out]; omega), hR]
 have hsz : ∀ r ∈ rows, r.size ≤ 100000 := by
  intro r hr
  have := rows12_len s.data.toList r.data.toList (by rw [← hrows]; exact List.mem_map_of_mem hr)
  rw [len_eq, len_eq] at this
  omega
 have HR0 := hid hwalk
 have HSZ := hid hsz
 obtain ⟨N, hN⟩ : ∃ N, rows.length = N := ⟨_, rfl⟩
 rw [hN] at hcall hpos hrl
 have hNs : N ≤ 100001 := by omega
 have hNs' : N ≤ 8193 := by omega
 have HN := hid hN
 have HC := hid hcall
 have HW := hid hw
 clear hwalk hR hsz hrows hN hcall hw hpos hrl
 go_enter Tryz.func16, Tryz.ntmps16
 go_wp2_with (go_at_call 27; refine HC.out.mono ?_; rintro e w1 ⟨rfl, hr1⟩)
 have HB0 := hid hr1
 clear hr1
 go_loopw [5, 18] (fun sv si wr => ∃ (k : Nat) (acc : List KV), k ≤ N ∧ acc.length ≤ k ∧ si = .int .i64 (k : Int) ∧ Hid (wr.ownsRow (w.heap.size + 1) 38 2 sv acc.length (cellsV acc)) ∧
  Hid (Rows12 rows w wr) ∧ Hid (KVk acc) ∧ Hid (runV k acc ((rows.map (·.data.toList)).drop k) = R)) (fun _ si _ => N - (intOf si).toNat)
 case atStart => exact ⟨0, [], Nat.zero_le _, Nat.le_refl _, rfl, hid (World.ownsRow_nil _ _ _ _), HB0, hid (fun p hp => by cases hp), HR0⟩
 case round =>
  obtain ⟨k, acc, hk, hak, rfl, HO, HB, HK, HW1⟩ := hrel
  by_cases hlt : k < N
  ·have hkr : k < rows.length := by rw [HN.out]; exact hlt
   have hskz : (k : Int) < (N : Int) := by omega
   have kw : IntKind.i64.wrap ((k : Int) + 1) = (k : Int) + 1 := IntWalk.i64_in _ (by omega)
   obtain ⟨r, hr⟩ : ∃ r, rows[k]'hkr = r := ⟨_, rfl⟩
   have hrc : wr.cell? ⟨w.heap.size, k, none⟩ = some (.string r) := by rw [← hr]; exact HB.out.at_ k hkr
   have hrs : r.size ≤ 100000 := by rw [← hr]; exact HSZ.out _ (List.getElem_mem hkr)
   have hdrop : (rows.map (·.data.toList)).drop k = r.data.toList :: (rows.map (·.data.toList)).drop (k + 1) := by
    rw [List.drop_eq_getElem_cons (by rw [List.length_map]; exact hkr), List.getElem_map, hr]
   rw [hdrop] at HW1
   have HWr := hid (HW.out.keep HB.out.1)
   clear hdrop hr
   obtain ⟨t, ht⟩ : ∃ t : ByteArray, trimS r.data.toList = t.data.toList := ⟨⟨(trimS r.data.toList).toArray⟩, toList_arr.symm⟩
   have HT := hid (fun w0 => trimB12 r t w0 (by omega) ht)
   have hts : t.size ≤ 100000 := by
    have := trim_len r.data.toList
    rw [ht, len_eq, len_eq] at this; omega
   by_cases h0 : t.data.toList = []
   ·have HN2 : Hid (runV (k + 1) acc ((rows.map (·.data.toList)).drop (k + 1)) = R) := hid (by rw [← HW1.out, runV_skip (lineV_skip ht (.inl h0))])
    obtain rfl := bytes_of (l := #[]) h0
    clear HW1 h0 ht
    go_wp2_with (go_at_call 28; refine (HT.out _).mono ?_; rintro e w2 ⟨rfl, hb2⟩; have h2 := hid (HB.out.go hb2); have h3 := hid (ownsV_below HO.out hb2); clear hb2)
    go_roundw
    case measure => simp [intOf]; omega
    case rel => exact ⟨k + 1, acc, by omega, by omega, by go_num, h3, h2, HK, HN2⟩
   have b0 : t.toList.isEmpty = false := by rw [ByteArray.toList_eq, List.isEmpty_eq_false_iff]; exact h0
   have b0' : ¬ t.toList = [] := by rw [ByteArray.toList_eq]; exact h0
   by_cases h35 : t.data.toList.getD 0 0 = 35
   ·have HN2 : Hid (runV (k + 1) acc ((rows.map (·.data.toList)).drop (k + 1)) = R) := hid (by rw [← HW1.out, runV_skip (lineV_skip ht (.inr h35))])
    have HP := hid (fun w0 => hasP12 t ⟨#[35]⟩ true w0 (by
     show Lib.hasPrefix t.data.toList [35] = true
     rw [pre_one, decide_eq_true]
     exact ⟨h0, h35⟩))
    clear HW1 h0 ht h35
    go_wp2_with first
     | (go_at_call 28; refine (HT.out _).mono ?_; rintro e w2 ⟨rfl, hb2⟩; have h2 := hid (HB.out.go hb2); have h3 := hid (ownsV_below HO.out hb2); clear hb2)
     | (go_at_call 29; refine (HP.out _).mono ?_; rintro e w3 ⟨rfl, rfl⟩)
    go_roundw
    case measure => simp [intOf]; omega
    case rel => exact ⟨k + 1, acc, by omega, by omega, by go_num, h3, h2, HK, HN2⟩
   have HP := hid (fun w0 => hasP12 t ⟨#[35]⟩ false w0 (by
    show Lib.hasPrefix t.data.toList [35] = false
    rw [pre_one, decide_eq_false]
    exact fun e => h35 e.2))
   have hlv := lineV_pair ht (by rintro (e | e); exact h0 e; exact h35 e)
   have hte : endOk t.data.toList := by rw [← ht]; exact endOk_trim _
   have htd : dropB t.data.toList = t.data.toList := by rw [← ht]; exact trim_dropB _
   cases hpv : pairV (expS t.data.toList) with
   | none =>
    have HE : Hid (([], k + 1, 3) = R) := hid (by rw [← HW1.out, runV_bad (by rw [hlv, hpv]; rfl)])
    have HV := hid (fun w0 h0 => parseVar_none t w0 h0 hts hte htd hpv)
    clear HW1 h0 ht h35 hlv hte htd hpv
    go_wp2_with first
     | (go_at_call 28; refine (HT.out _).mono ?_; rintro e w2 ⟨rfl, hb2⟩; have h2 := hid (HB.out.go hb2); have HW2 := hid (HWr.out.keep hb2); clear hb2)
     | (go_at_call 29; refine (HP.out _).mono ?_; rintro e w3 ⟨rfl, rfl⟩)
     | (go_at_call 30; refine (HV.out _ HW2.out).mono ?_; rintro e w4 ⟨X, Y, rfl, hb4⟩; have h4 := hid (h2.out.go hb4); clear hb4)
    go_ret3
    rw [← HE.out]
    exact ⟨_, rfl, vr_nil _ none 0 (Nat.zero_le _) (fun _ => rfl), h4.out.1.alloc h4.out.1.size _⟩
   | some p =>
    have hlp : lineV r.data.toList = some (some p) := by rw [hlv, hpv]; rfl
    have HN2 : Hid (runV (k + 1) (acc ++ [p]) ((rows.map (·.data.toList)).drop (k + 1)) = R) := hid (by rw [← HW1.out, runV_add hlp])
    have HK2 : Hid (KVk (acc ++ [p])) := hid (HK.out.snoc (lineV_key hlp))
    obtain ⟨X, hX⟩ : ∃ X, ba p.1 = X := ⟨_, rfl⟩
    obtain ⟨Y, hY⟩ : ∃ Y, ba p.2 = Y := ⟨_, rfl⟩
    have HV := hid (fun w0 h0 => parseVar_some t X Y p w0 h0 hts hte htd hpv hX hY)
    have HCS : Hid (cellsV (acc ++ [p]) = cellsV acc ++ [.string X, .string Y]) := hid (by rw [cellsV_snoc, ← hX, ← hY]; rfl)
    clear HW1 h0 ht h35 hlv hte htd hpv hlp hX hY
    obtain ⟨YS, hYS⟩ : ∃ YS, YS = cellsV acc := ⟨_, rfl⟩
    obtain ⟨al, hal⟩ : ∃ al, acc.length = al := ⟨_, rfl⟩
    rw [← hYS, hal] at HO
    rw [← hYS] at HCS
    have hal2 : al ≤ N := by omega
    have HAL := hid hal
    have HAK : Hid (al ≤ k) := hid (by omega)
    clear hYS hal hak
    go_wp2_with first
     | (go_at_call 28; refine (HT.out _).mono ?_; rintro e w2 ⟨rfl, hb2⟩; have h2 := hid (HB.out.go hb2); have h3 := hid (ownsV_below HO.out hb2); have HW2 := hid (HWr.out.keep hb2); clear hb2)
     | (go_at_call 29; refine (HP.out _).mono ?_; rintro e w3 ⟨rfl, rfl⟩)
     | (go_at_call 30; refine (HV.out _ HW2.out).mono ?_; rintro e w4 ⟨rfl, hb4⟩; have h4 := hid (h2.out.go hb4); have h5 := ownsV_below h3.out hb4; clear hb4)
     | (at_builtin; refine wpList_append_own _ rfl _ _ 22 rfl (w.heap.size + 1) 38 i3 _ 2 32 Tryz.underlying22 hi3 hy0 hy1 hy2 rfl (by decide) _ _ _ rfl ((h5.alloc _).alloc _) ⟨w4.heap.size + 1, 0, none⟩ 1 1 [.string X, .string Y] rfl rfl ?c1 ?c2 ?c3 ?c4 ?c5 ?_)
    case c1 =>
     have := cells_new (w4.alloc (.cells #[.string X, .string Y] 38)) #[.string X, .string Y] 38
     simpa using this
    case c2 => intro u hu; simp at hu; rcases hu with rfl | rfl <;> rfl
    case c3 => unfold maxLen; omega
    case c4 => omega
    case c5 => have := h4.out.2.1; simp; omega
    ·intro v' w5 hown' hgrow hnil
     have HW5 := hid hown'
     have HG5 := hid hgrow
     have HOy := hid h5
     clear hown' hgrow h5 hnil
     go_wp2
     go_roundw
     case measure => simp [intOf]; omega
     case rel =>
      have hlow : ∀ q, u5.ownBlock = some q → w.heap.size + 1 ≤ q := fun q hq => (HOy.out.lt q hq).1
      refine ⟨k + 1, acc ++ [p], by omega, by rw [List.length_append, HAL.out]; show al + 1 ≤ _; have := HAK.out; omega, by go_num, ?_, ?_, HK2, HN2⟩
      ·rw [List.length_append, HAL.out, HCS.out]; exact HW5
      ·exact hid (((h4.out.go ((Below.refl _ _).alloc (Nat.le_refl _) _)).go ((Below.refl _ _).alloc (Nat.le_refl _) _)).grown HG5.out hlow)
  ·obtain rfl : k = N := by omega
   have HE : Hid ((if 64 < (gath acc).length then ([], 0, 9) else (gath acc, 0, 0)) = R) := hid (by
    rw [← HW1.out, List.drop_of_length_le (by rw [List.length_map, HN.out]; exact Nat.le_refl _)]; rfl)
   have hab : acc.length ≤ 100000 := by omega
   have HC2 := hid (collected_any u5 acc wr (vr_of_owns HO.out).1 HK.out hab)
   have hgl : (gath acc).length ≤ 100000 := Nat.le_trans (gath_len acc) hab
   obtain ⟨G, hG⟩ : ∃ G, (gath acc).length = G := ⟨_, rfl⟩
   have HG := hid hG
   rw [hG] at HE hgl
   have HBW := hid HB.out.1
   have HOF : Hid (¬ 64 < G → ofV acc = gath acc) := hid (fun h => by unfold ofV; exact List.take_of_length_le (by rw [hG]; omega))
   have HAB := hid hab
   have hsk : ¬ (k : Int) < (k : Int) := by omega
   clear HO hG hlt hab
   by_cases h64 : 64 < G
   ·have HRR : Hid (([], 0, 9) = R) := hid (by rw [← HE.out, if_pos h64])
    have hgz : (64 : Int) < (G : Int) := by omega
    go_wp2_with first
     | (go_at_call 21; refine HC2.out.mono ?_; rintro e w6 ⟨rfl, h6, b6⟩; have H6 := hid h6; have B6 := hid (HBW.out.trans (b6.mono HBW.out.size)); clear h6 b6)
     | (at_len; refine wpList_len_own _ rfl _ 43 rfl 9 38 Tryz.underlying43 varR wr.heap.size _ _ rfl H6.out ?_; rw [map_size12 H6.out, HG.out])
    go_ret3
    rw [← HRR.out]
    exact ⟨_, rfl, vr_nil _ none 0 (Nat.zero_le _) (fun _ => rfl), B6.out⟩
   ·have HRR : Hid ((gath acc, 0, 0) = R) := hid (by rw [← HE.out, if_neg h64])
    have hgz : ¬ (64 : Int) < (G : Int) := by omega
    have HOG := hid (HOF.out h64)
    go_wp2_with first
     | (go_at_call 21; refine HC2.out.mono ?_; rintro e w6 ⟨rfl, h6, b6⟩; have H6 := hid h6; have B6 := hid (HBW.out.trans (b6.mono HBW.out.size)); clear h6 b6)
     | (at_len; refine wpList_len_own _ rfl _ 43 rfl 9 38 Tryz.underlying43 varR wr.heap.size _ _ rfl H6.out ?_; rw [map_size12 H6.out, HG.out])
     | (go_at_call 20; refine (listed_any _ _ _ _ H6.out HAB.out).mono ?_; rintro e w7 ⟨v7, rfl, h7, b7⟩; rw [HOG.out] at h7; have H7 := hid h7; have B7 := hid (B6.out.trans (b7.mono B6.out.size)); clear h7 b7)
    go_ret3
    rw [← HRR.out]
    exact ⟨_, rfl, H7.out, B7.out⟩
end
end Go.Proofs.YtgdejjkiiaodkaaGreatDoor
