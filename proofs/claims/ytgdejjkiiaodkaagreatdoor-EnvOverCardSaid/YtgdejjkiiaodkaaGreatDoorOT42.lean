/- EnvCon -/
import Derived.Test.YtgdejjkiiaodkaaGreatDoorOT26
import Derived.Test.YtgdejjkiiaodkaaGreatDoorOT40
import Derived.Test.YtgdejjkiiaodkaaGreatDoorOT41
set_option linter.unusedVariables false
set_option linter.unusedSimpArgs false
set_option maxRecDepth 100000
set_option maxHeartbeats 16000000
open Go.Lib (hid)
namespace Go.Proofs.YtgdejjkiiaodkaaGreatDoor
section
open Go.RowKit Go.Sort
open Nw V12 Go.ChangeShapes Go.WideShapes
theorem Grow_nil12 (n : Nat) (w : World) (hn : n ≤ 1000000) :
  Calls Tryz.prog 38 #[.slice none 0 0, .int .i64 n] w fun e w' => ∃ v, e = .returned v ∧ w'.ownsRow w.heap.size 38 2 v 0 [] ∧ Below w.heap.size w w' := by
 by_cases h0 : n = 0
 ·subst h0
  refine (Tryz.slices_Grow_room none 0 0 0 w (Nat.le_refl _) (by omega) (by omega) (by omega)).mono ?_
  rintro e w' ⟨rfl, rfl⟩
  exact ⟨_, rfl, ⟨rfl, .inl ⟨rfl, rfl⟩⟩, Below.refl _ _⟩
 ·obtain ⟨i, hi, hz, hs, hby⟩ := infoV
  refine (Tryz.slices_Grow_grow i _ hi hz (by omega) none 0 0 n [] w (Nat.le_refl _) (by omega) (by rw [hby]; omega) (by omega) (by simp) (fun _ => rfl) (fun a h => by cases h)).mono ?_
  rintro e w' ⟨rfl, rfl⟩
  have hG := grownCap_ge w (0 + n) 0 38
  have hGm := grownCap_le_maxLen w (0 + n) 0 38 (by unfold maxLen; omega)
  refine ⟨_, rfl, ⟨rfl, .inr ⟨w.heap.size, _, ?cur, rfl, Nat.le_refl _, ?h, Nat.zero_le _, hGm, ?sz, ?tk⟩⟩, (Below.refl _ _).drew.alloc (Nat.le_refl _) _⟩
  case h => exact Array.getElem?_push_size (xs := w.heap)
  case tk => exact List.take_zero
  case sz =>
   simp only [Nat.zero_add] at hG
   simp [size_zeroCells, Value.cells]
   omega
theorem flat_succ12 {ls : List (List KV)} {k : Nat} (h : k < ls.length) : (ls.take (k + 1)).flatten = (ls.take k).flatten ++ ls[k] := by
 rw [List.take_succ_eq_append_getElem h, List.flatten_append]; simp
theorem flat_len12 {ls : List (List KV)} {k : Nat} (h : k < ls.length) : (ls.take (k + 1)).flatten.length = (ls.take k).flatten.length + ls[k].length := by rw [flat_succ12 h, List.length_append]
theorem flat_le12 (ls : List (List KV)) (k : Nat) : (ls.take k).flatten.length ≤ ls.flatten.length := by
 conv => rhs; rw [← List.take_append_drop k ls, List.flatten_append, List.length_append]
 omega
theorem Concat12 (b o m cap : Nat) (vs : List Value) (ls : List (List KV)) (w : World) (hm : ls.length = m) (hvs : vs.length = m) (hcap : m ≤ cap) (hc63 : cap ≤ 9223372036854775807) (hb : b < w.heap.size)
  (hc : ∀ j (h : j < vs.length), w.cell? ⟨b, o + j, none⟩ = some vs[j]) (hr : ∀ j (h : j < vs.length) (h' : j < ls.length), VR w vs[j] ls[j]) (hbig : ls.flatten.length ≤ 100000) :
  Calls Tryz.prog 22 #[.slice (some ⟨b, o, none⟩) m cap] w fun e w' => ∃ v, e = .returned v ∧ w'.ownsRow w.heap.size 38 2 v ls.flatten.length (cellsV ls.flatten) ∧ Below w.heap.size w w' := by
 obtain ⟨i0, hi, hz0, hz1, hz2⟩ := infoV
 have HC := hid hc
 have HR := hid hr
 have HB := hid hbig
 clear hc hr hbig
 go_enter Tryz.func22, Tryz.ntmps22
 go_wp2
 go_loop [3, 5, 11] (fun n s i => ∃ k : Nat, k ≤ m ∧ i = .int .i64 k ∧ n = .int .i64 (ls.take k).flatten.length) (fun _ _ i => m - (intOf i).toNat)
 case atStart => exact ⟨0, Nat.zero_le _, rfl, rfl⟩
 case round =>
  obtain ⟨k, hk, rfl, rfl⟩ := hrel
  have hle := flat_le12 ls k
  by_cases hlt : k < m
  ·have hk1 : Hid (k < vs.length) := hid (by omega)
   have hk2 : Hid (k < ls.length) := hid (by omega)
   obtain ⟨a, cp, hv, hcp, hcm, _⟩ := HR.out k hk1.out hk2.out
   have hcell := HC.out k hk1.out
   rw [hv] at hcell
   have hsum := flat_len12 hk2.out
   have hle2 := flat_le12 ls (k + 1)
   have hbb := HB.out
   have HS : Hid ((ls.take (k + 1)).flatten.length = (ls.take k).flatten.length + (ls[k]'hk2.out).length) := hid hsum
   clear hsum hv
   rw [HS.out] at hle2
   generalize (ls.take k).flatten.length = T at hle hle2 HS ⊢
   generalize (ls[k]'hk2.out).length = n1 at hcp hcell hle2 HS
   generalize ls.flatten.length = TT at hle hle2 hbb HB ⊢
   go_wp2
   go_round
   case rel => exact ⟨k + 1, by omega, by go_num, by rw [HS.out]; go_num⟩
   case measure => simp [intOf]; omega
  ·obtain rfl : k = m := by omega
   have hall : (ls.take k).flatten = ls.flatten := by rw [← hm, List.take_length]
   rw [hall]
   have hG := Grow_nil12 ls.flatten.length w (by have := HB.out; omega)
   clear hall hle
   obtain ⟨TT, HT⟩ : ∃ TT, Hid (TT = ls.flatten.length) := ⟨_, rfl⟩
   rw [← HT.out] at hG ⊢
   go_wp2_with (go_at_call 38; refine hG.mono ?_; rintro e w1 ⟨v1, rfl, hown1, hbel1⟩)
   go_loopw [6, 8, 27] (fun v s i wr => ∃ k2 : Nat, k2 ≤ k ∧ i = .int .i64 k2 ∧ wr.ownsRow w.heap.size 38 2 v (ls.take k2).flatten.length (cellsV (ls.take k2).flatten) ∧ Below w.heap.size w wr) (fun _ _ i _ => k - (intOf i).toNat)
   case atStart => exact ⟨0, Nat.zero_le _, rfl, hown1, hbel1⟩
   case round =>
    clear hown1 hbel1 hG
    obtain ⟨k2, hk2, rfl, hown, hbel⟩ := hrel
    have HW := hid hown
    have HL := hid hbel
    by_cases hlt2 : k2 < k
    ·have j1 : Hid (k2 < vs.length) := hid (by omega)
     have j2 : Hid (k2 < ls.length) := hid (by omega)
     have hrd := (HR.out k2 j1.out j2.out).below HL.out
     have HRD := hid hrd
     have hcell := (HL.out.cell (p := ⟨b, o + k2, none⟩) hb).trans (HC.out k2 j1.out)
     have HS := hid (flat_succ12 j2.out)
     have HLn := hid (Nat.le_trans (Nat.le_of_eq (flat_len12 j2.out).symm) (flat_le12 ls (k2 + 1)))
     clear hrd hbel
     obtain ⟨l1, hl1⟩ : ∃ l1, ls[k2]'j2.out = l1 := ⟨_, rfl⟩
     obtain ⟨v1, hv1⟩ : ∃ v1, vs[k2]'j1.out = v1 := ⟨_, rfl⟩
     rw [hl1] at HS HLn HRD
     rw [hv1] at hcell HRD
     clear hl1 hv1
     obtain ⟨T, hT⟩ : ∃ T, T = (ls.take k2).flatten.length := ⟨_, rfl⟩
     rw [← hT] at hown HLn
     have HT2 := hid hT
     obtain ⟨X, hX⟩ : ∃ X, X = cellsV (ls.take k2).flatten := ⟨_, rfl⟩
     rw [← hX] at hown
     have HX := hid hX
     clear hT hX
     go_wp2_with (at_builtin; refine wpList_append_vr rfl _ _ rfl w.heap.size _ _ _ rfl hown _ l1 rfl HRD.out (by have := HLn.out; have := HB.out; omega) HL.out.size ?_; intro v8 w3 o8 b8; have O8 := hid o8; have B8 := hid b8; clear o8 b8)
     go_roundw
     case rel =>
      refine ⟨k2 + 1, by omega, by go_num, ?_, HL.out.trans B8.out⟩
      have := O8.out
      rw [HS.out, List.length_append, cellsV_app, ← HT2.out, ← HX.out]
      exact this
     case measure => simp [intOf]; omega
    ·obtain rfl : k2 = k := by omega
     have hall : (ls.take k2).flatten = ls.flatten := by rw [← hm, List.take_length]
     rw [hall, ← HT.out] at hown
     clear HW
     have HW := hid hown
     go_wp2
     go_ret
     refine ⟨_, rfl, ?_, HL.out⟩
     rw [← HT.out]
     exact HW.out
theorem Over_any (v u : Value) (x y : List KV) (w : World) (hv : VR w v x) (hu : VR w u y) (hok : KVk (x ++ y)) (hx : x.length + y.length ≤ 10000) :
  Calls Tryz.prog 13 #[v, u] w fun e w' => ∃ v', e = .returned v' ∧ VR w' v' (ofV (x ++ y)) ∧ Below w.heap.size w w' := by
 have hb0 := (Below.refl w.heap.size w).alloc (Nat.le_refl _) (.cells #[v, u] 22)
 have HB0 := hid hb0
 have hfl : ([x, y] : List (List KV)).flatten = x ++ y := by simp
 have HC := hid (Concat12 w.heap.size 0 2 2 [v, u] [x, y] (w.alloc (.cells #[v, u] 22)) rfl rfl (Nat.le_refl _) (by omega) (by simp)
  (fun j h => by
   have := cells_new w #[v, u] 22 j ([v, u][j]'h) (by show [v, u][j]? = _; rw [List.getElem?_eq_getElem h])
   rw [add_plain] at this
   exact this)
  (fun j h h' => by
   match j, h with
   | 0, _ => exact hv.below hb0
   | 1, _ => exact hu.below hb0)
  (by rw [hfl, List.length_append]; omega))
 rw [hfl] at HC
 obtain ⟨a1, c1, rfl, -, -, -⟩ := hv
 obtain ⟨a2, c2, rfl, -, -, -⟩ := hu
 have HOK := hid hok
 have HL : Hid ((x ++ y).length ≤ 100000) := hid (by rw [List.length_append]; omega)
 obtain ⟨z, hz⟩ : ∃ z, x ++ y = z := ⟨_, rfl⟩
 rw [hz] at HC HOK HL ⊢
 clear hb0 hfl hok hx hz
 generalize x.length = n1 at HC HB0 ⊢
 generalize y.length = n2 at HC HB0 ⊢
 go_enter Tryz.func13, Tryz.ntmps13
 go_wp2_with first
  | (go_at_call 22; refine HC.out.mono ?_; rintro e w1 ⟨v1, rfl, h1, b1⟩; have H1 := hid (vr_of_owns h1).1; have B1 := hid (HB0.out.trans (b1.mono (by simp))); clear h1 b1)
  | (go_at_call 12; refine (Of_any _ _ _ H1.out HOK.out HL.out).mono ?_; rintro e w2 ⟨v2, rfl, h2, b2⟩; have H2 := hid h2; have B2 := hid (B1.out.trans (b2.mono B1.out.size)); clear h2 b2)
 go_ret
 exact ⟨_, rfl, H2.out, B2.out⟩
end
end Go.Proofs.YtgdejjkiiaodkaaGreatDoor
