/- EnvLaw3 -/
import Derived.Test.YtgdejjkiiaodkaaGreatDoorGT28
import Derived.Test.YtgdejjkiiaodkaaGreatDoorGT29
set_option linter.unusedVariables false
set_option linter.unusedSimpArgs false
set_option maxRecDepth 100000
set_option maxHeartbeats 16000000
open Go.Lib (hid)
namespace Go.Proofs.YtgdejjkiiaodkaaGreatDoor
section
open Go.RowKit Go.Sort
open Nw V12 Q6
section
variable (Pw : World → Prop) (hPw : ∀ w w', Pw w → Below w.heap.size w w' → Pw w')
variable (HParse : ∀ (s : ByteArray) (W : World), Pw W → s.size ≤ 100000 → Calls Tryz.prog 16 #[.string s] W (GivesPar (parV s.data.toList) W))
variable (HOf : ∀ (v : Value) (l : List KV) (W : World), Pw W → VR W v l → small100 l → Calls Tryz.prog 12 #[v] W (GivesV (ofV l) W))
variable (HOver : ∀ (v u : Value) (x y : List KV) (W : World), Pw W → VR W v x → VR W u y → EnvOk x → EnvOk y → small100 x → small100 y → x.length ≤ 64 → y.length ≤ 64 → Calls Tryz.prog 13 #[v, u] W (GivesV (ofV (x ++ y)) W))
variable (HGet : ∀ (v : Value) (x : List KV) (k : ByteArray) (W : World), Pw W → VR W v x → EnvOk x → small100 x → x.length ≤ 64 → k.size ≤ maxLen → Calls Tryz.prog 9 #[v, .string k] W fun e w' => e = .returned (.tuple #[.string (gotV x k.data.toList), .bool (gotB x k.data.toList)]) ∧ Below W.heap.size W w')
variable (HText : ∀ (v : Value) (x : List KV) (T : ByteArray) (W : World), Pw W → VR W v x → EnvOk x → small100 x → x.length ≤ 64 → textV x = T.data.toList → Calls Tryz.prog 14 #[v] W fun e w' => e = .returned (.string T) ∧ Below W.heap.size W w')
include hPw HParse HOf HOver HGet HText
theorem EnvGathers_walk (v1 v2 : Value) (l m : List KV) (k : ByteArray) (w : World) (hw : Pw w) (hl : VR w v1 l) (hm : VR w v2 m) (okl : KVok l) (okm : KVok m) (hk : k.size ≤ maxLen) :
  Calls Tryz.prog 3 #[v1, v2, .string k] w fun e w' => e = .returned (.bool true) ∧ Below w.heap.size w w' := by
 have HAW := hid (fun W hW => Awake12 Pw hPw HParse W hW)
 have HW := hid hw
 have HP := hid hPw
 have HL := hid hl
 have HM := hid hm
 have F1 := hid (Few12_any v1 l 100 w hl okl)
 have F2 := hid (Few12_any v2 m 100 w hm okm)
 clear HParse hw hPw hl hm okl okm
 by_cases f1 : fewV l 100
 ·rw [decide_eq_true f1] at F1
  by_cases f2 : fewV m 100
  ·rw [decide_eq_true f2] at F2
   have s1 := hid (fewV_small f1 (by decide))
   have s2 := hid (fewV_small f2 (by decide))
   have t1 := hid (of_small s1.out)
   have t2 := hid (of_small s2.out)
   have hok1 := hid (small_ok s1.out)
   have hok2 := hid (small_ok s2.out)
   have hl1 : Hid (l.length ≤ 100000) := hid (by have := s1.out.1; omega)
   have hl2 : Hid (m.length ≤ 100000) := hid (by have := s2.out.1; omega)
   have x1 := hid (of_ok l)
   have x2 := hid (of_ok m)
   have n1 := hid (of_len l).1
   have n2 := hid (of_len m).1
   have S1 := hid s1.out
   have COf := hid HOf
   have COver := hid HOver
   have CGet := hid HGet
   have CText := hid HText
   have BB : Hid (Below w.heap.size w w) := hid (Below.refl _ _)
   obtain ⟨X, hX⟩ : ∃ X, ofV l = X := ⟨_, rfl⟩
   obtain ⟨Y, hY⟩ : ∃ Y, ofV m = Y := ⟨_, rfl⟩
   have HX := hid hX
   have HY := hid hY
   rw [hX] at t1 x1 n1
   rw [hY] at t2 x2 n2
   have hxy : Hid ((X ++ Y).length ≤ 100000) := hid (by rw [List.length_append]; have := n1.out; have := n2.out; omega)
   obtain ⟨T, hT⟩ : ∃ T : ByteArray, textV X = T.data.toList := ⟨⟨(textV X).toArray⟩, toList_arr.symm⟩
   have HT := hid hT
   obtain ⟨gq, hgq⟩ : ∃ g, gotV X k.data.toList = g := ⟨_, rfl⟩
   obtain ⟨gb, hgb⟩ : ∃ g, gotB X k.data.toList = g := ⟨_, rfl⟩
   have HGQ := hid hgq
   have HGB := hid hgb
   have eqs := ba_same (x := gq)
   have eqT := ba_same (x := T)
   have eqb : (gb == gb) = true := by cases gb <;> rfl
   clear f1 f2 hX hY hT hgq hgb HOf HOver HGet HText s1 s2
   go_enter Tryz.func3, Tryz.ntmps3
   go_wp2_with first
    | (go_at_call 6; with_reducible refine F1.out.mono ?_; rintro e w1 ⟨rfl, rfl⟩)
    | (go_at_call 6; with_reducible refine F2.out.mono ?_; rintro e w1 ⟨rfl, rfl⟩)
    | (go_at_call 8; with_reducible refine (ROf_any v1 l _ HL.out hok1.out.k hl1.out).mono ?_; rintro e w1 ⟨v3, rfl, h3, bb⟩; rw [HX.out] at h3; have V3 := hid h3; clear h3; ((try replace HL := hid (HL.out.below bb)); (try replace HM := hid (HM.out.below bb)); (try replace V3 := hid (V3.out.below bb)); (try replace V4 := hid (V4.out.below bb)); (try replace V9 := hid (V9.out.below bb)); (try replace VB := hid (VB.out.below bb)); (try replace VC := hid (VC.out.below bb)); (try replace VA := hid (VA.out.below bb)); replace HW := hid (HP.out _ _ HW.out bb); replace BB := hid (BB.out.trans (bb.mono BB.out.size)); clear bb))
    | (go_at_call 8; with_reducible refine (ROf_any v2 m _ HM.out hok2.out.k hl2.out).mono ?_; rintro e w2 ⟨v4, rfl, h4, bb⟩; rw [HY.out] at h4; have V4 := hid h4; clear h4; ((try replace HL := hid (HL.out.below bb)); (try replace HM := hid (HM.out.below bb)); (try replace V3 := hid (V3.out.below bb)); (try replace V4 := hid (V4.out.below bb)); (try replace V9 := hid (V9.out.below bb)); (try replace VB := hid (VB.out.below bb)); (try replace VC := hid (VC.out.below bb)); (try replace VA := hid (VA.out.below bb)); replace HW := hid (HP.out _ _ HW.out bb); replace BB := hid (BB.out.trans (bb.mono BB.out.size)); clear bb))
    | (at_builtin; refine wpList_append_vr rfl _ _ rfl w2.heap.size _ 0 (cellsV []) rfl (ownV_literal w2 w2.heap.size (Nat.le_refl _)) v3 X rfl (V3.out.below ((Below.refl _ _).alloc (Nat.le_refl _) _)) (by have := n1.out; omega) (by simp) ?_; intro v8 w3 o8 b8; have O8 := hid o8; have B8 := hid (((Below.refl w2.heap.size w2).alloc (Nat.le_refl _) (.cells #[] 38)).trans b8); clear o8 b8)
    | (at_builtin; refine wpList_append_vr rfl _ _ rfl w2.heap.size _ _ _ rfl O8.out v4 Y rfl (V4.out.below B8.out) (by have := n1.out; have := n2.out; omega) B8.out.size ?_; intro v9 w4 o9 b9; have bb := B8.out.trans b9; ((try replace HL := hid (HL.out.below bb)); (try replace HM := hid (HM.out.below bb)); (try replace V3 := hid (V3.out.below bb)); (try replace V4 := hid (V4.out.below bb)); (try replace V9 := hid (V9.out.below bb)); (try replace VB := hid (VB.out.below bb)); (try replace VC := hid (VC.out.below bb)); (try replace VA := hid (VA.out.below bb)); replace HW := hid (HP.out _ _ HW.out bb); replace BB := hid (BB.out.trans (bb.mono BB.out.size)); clear bb); have V9 := hid (vr_of_owns (l := X ++ Y) (by rw [cellsV_app]; exact o9)).1; clear o9 b9 O8 B8)
    | (go_at_call 9; refine (CGet.out v3 X k _ HW.out V3.out x1.out t1.out n1.out hk).mono ?_; rintro e w5 ⟨rfl, bb⟩; rw [HGQ.out, HGB.out]; ((try replace HL := hid (HL.out.below bb)); (try replace HM := hid (HM.out.below bb)); (try replace V3 := hid (V3.out.below bb)); (try replace V4 := hid (V4.out.below bb)); (try replace V9 := hid (V9.out.below bb)); (try replace VB := hid (VB.out.below bb)); (try replace VC := hid (VC.out.below bb)); (try replace VA := hid (VA.out.below bb)); replace HW := hid (HP.out _ _ HW.out bb); replace BB := hid (BB.out.trans (bb.mono BB.out.size)); clear bb))
    | (go_at_call 10; refine (RLast_any v3 X k _ V3.out).mono ?_; rintro e w6 ⟨rfl, rfl⟩; rw [HGQ.out, HGB.out])
    | (go_at_call 12; refine (COf.out v1 l _ HW.out HL.out S1.out).mono ?_; rintro e w7 ⟨va, rfl, ha, bb⟩; rw [HX.out] at ha; ((try replace HL := hid (HL.out.below bb)); (try replace HM := hid (HM.out.below bb)); (try replace V3 := hid (V3.out.below bb)); (try replace V4 := hid (V4.out.below bb)); (try replace V9 := hid (V9.out.below bb)); (try replace VB := hid (VB.out.below bb)); (try replace VC := hid (VC.out.below bb)); (try replace VA := hid (VA.out.below bb)); replace HW := hid (HP.out _ _ HW.out bb); replace BB := hid (BB.out.trans (bb.mono BB.out.size)); clear bb); have VA := hid ha; clear ha)
    | (go_at_call 11; with_reducible refine (RSame12_any va v3 X X _ VA.out V3.out).mono ?_; rintro e w8 ⟨rfl, bb⟩; ((try replace HL := hid (HL.out.below bb)); (try replace HM := hid (HM.out.below bb)); (try replace V3 := hid (V3.out.below bb)); (try replace V4 := hid (V4.out.below bb)); (try replace V9 := hid (V9.out.below bb)); (try replace VB := hid (VB.out.below bb)); (try replace VC := hid (VC.out.below bb)); (try replace VA := hid (VA.out.below bb)); replace HW := hid (HP.out _ _ HW.out bb); replace BB := hid (BB.out.trans (bb.mono BB.out.size)); clear bb); rw [decide_eq_true rfl])
    | (go_at_call 13; refine (COver.out v3 v4 X Y _ HW.out V3.out V4.out x1.out x2.out t1.out t2.out n1.out n2.out).mono ?_; rintro e w9 ⟨vb, rfl, hb, bb⟩; ((try replace HL := hid (HL.out.below bb)); (try replace HM := hid (HM.out.below bb)); (try replace V3 := hid (V3.out.below bb)); (try replace V4 := hid (V4.out.below bb)); (try replace V9 := hid (V9.out.below bb)); (try replace VB := hid (VB.out.below bb)); (try replace VC := hid (VC.out.below bb)); (try replace VA := hid (VA.out.below bb)); replace HW := hid (HP.out _ _ HW.out bb); replace BB := hid (BB.out.trans (bb.mono BB.out.size)); clear bb); have VB := hid hb; clear hb)
    | (go_at_call 8; with_reducible refine (ROf_any v9 (X ++ Y) _ V9.out (small_app t1.out t2.out) hxy.out).mono ?_; rintro e w10 ⟨vc, rfl, hc, bb⟩; ((try replace HL := hid (HL.out.below bb)); (try replace HM := hid (HM.out.below bb)); (try replace V3 := hid (V3.out.below bb)); (try replace V4 := hid (V4.out.below bb)); (try replace V9 := hid (V9.out.below bb)); (try replace VB := hid (VB.out.below bb)); (try replace VC := hid (VC.out.below bb)); (try replace VA := hid (VA.out.below bb)); replace HW := hid (HP.out _ _ HW.out bb); replace BB := hid (BB.out.trans (bb.mono BB.out.size)); clear bb); have VC := hid hc; clear hc)
    | (go_at_call 11; with_reducible refine (RSame12_any vb vc (ofV (X ++ Y)) (ofV (X ++ Y)) _ VB.out VC.out).mono ?_; rintro e w11 ⟨rfl, bb⟩; ((try replace HL := hid (HL.out.below bb)); (try replace HM := hid (HM.out.below bb)); (try replace V3 := hid (V3.out.below bb)); (try replace V4 := hid (V4.out.below bb)); (try replace V9 := hid (V9.out.below bb)); (try replace VB := hid (VB.out.below bb)); (try replace VC := hid (VC.out.below bb)); (try replace VA := hid (VA.out.below bb)); replace HW := hid (HP.out _ _ HW.out bb); replace BB := hid (BB.out.trans (bb.mono BB.out.size)); clear bb); rw [decide_eq_true rfl])
    | (go_at_call 14; refine (CText.out v3 X T _ HW.out V3.out x1.out t1.out n1.out HT.out).mono ?_; rintro e w12 ⟨rfl, bb⟩; ((try replace HL := hid (HL.out.below bb)); (try replace HM := hid (HM.out.below bb)); (try replace V3 := hid (V3.out.below bb)); (try replace V4 := hid (V4.out.below bb)); (try replace V9 := hid (V9.out.below bb)); (try replace VB := hid (VB.out.below bb)); (try replace VC := hid (VC.out.below bb)); (try replace VA := hid (VA.out.below bb)); replace HW := hid (HP.out _ _ HW.out bb); replace BB := hid (BB.out.trans (bb.mono BB.out.size)); clear bb))
    | (go_at_call 15; refine (RText12_any v3 X _ V3.out t1.out.1 t1.out.2 T HT.out).mono ?_; rintro e w13 ⟨rfl, bb⟩; ((try replace HL := hid (HL.out.below bb)); (try replace HM := hid (HM.out.below bb)); (try replace V3 := hid (V3.out.below bb)); (try replace V4 := hid (V4.out.below bb)); (try replace V9 := hid (V9.out.below bb)); (try replace VB := hid (VB.out.below bb)); (try replace VC := hid (VC.out.below bb)); (try replace VA := hid (VA.out.below bb)); replace HW := hid (HP.out _ _ HW.out bb); replace BB := hid (BB.out.trans (bb.mono BB.out.size)); clear bb))
    | (go_at_call 7; refine (HAW.out _ HW.out).mono ?_; rintro e w14 ⟨rfl, bb⟩; ((try replace HL := hid (HL.out.below bb)); (try replace HM := hid (HM.out.below bb)); (try replace V3 := hid (V3.out.below bb)); (try replace V4 := hid (V4.out.below bb)); (try replace V9 := hid (V9.out.below bb)); (try replace VB := hid (VB.out.below bb)); (try replace VC := hid (VC.out.below bb)); (try replace VA := hid (VA.out.below bb)); replace HW := hid (HP.out _ _ HW.out bb); replace BB := hid (BB.out.trans (bb.mono BB.out.size)); clear bb))
   go_ret
   exact ⟨by simp, BB.out⟩
  ·rw [decide_eq_false f2] at F2
   clear f1 f2 HOf HOver HGet HText
   go_enter Tryz.func3, Tryz.ntmps3
   go_wp2_with first
    | (go_at_call 6; with_reducible refine F1.out.mono ?_; rintro e w1 ⟨rfl, rfl⟩)
    | (go_at_call 6; with_reducible refine F2.out.mono ?_; rintro e w1 ⟨rfl, rfl⟩)
    | (go_at_call 7; refine (HAW.out _ HW.out).mono ?_; rintro e w1 ⟨rfl, b1⟩)
   go_ret
   exact ⟨rfl, b1⟩
 ·rw [decide_eq_false f1] at F1
  clear f1 HOf HOver HGet HText
  go_enter Tryz.func3, Tryz.ntmps3
  go_wp2_with first
   | (go_at_call 6; with_reducible refine F1.out.mono ?_; rintro e w1 ⟨rfl, rfl⟩)
   | (go_at_call 7; refine (HAW.out _ HW.out).mono ?_; rintro e w1 ⟨rfl, b1⟩)
  go_ret
  exact ⟨rfl, b1⟩
end
end
end Go.Proofs.YtgdejjkiiaodkaaGreatDoor
