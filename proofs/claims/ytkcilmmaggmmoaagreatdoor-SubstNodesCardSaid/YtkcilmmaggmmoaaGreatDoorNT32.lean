/- RefTmp7 -/
import Derived.Test.YtkcilmmaggmmoaaGreatDoorNT13
import Derived.Test.YtkcilmmaggmmoaaGreatDoorNT14
import Derived.Test.YtkcilmmaggmmoaaGreatDoorNT31
set_option linter.unusedVariables false
set_option linter.unusedSimpArgs false
set_option maxRecDepth 100000
set_option maxHeartbeats 16000000
open Go.Lib (hid)
namespace Go.Proofs.YtkcilmmaggmmoaaGreatDoor
namespace Nw
end Nw
namespace T13
end T13
end Go.Proofs.YtkcilmmaggmmoaaGreatDoor
namespace Go.Proofs.YtkcilmmaggmmoaaGreatDoor
section
open Go.RowKit Go.Sort
open Nw T13
section
variable {d : Nat} {c : UInt8} {t : L8}
theorem S_stop (h1 : c = 125) (h2 : 1 < d) : stp d c t = .stop := by unfold stp; rw [if_pos ⟨h1, h2⟩]
theorem S_lit (h1 : ¬ (c = 125 ∧ 1 < d)) (h2 : c ≠ 36) : stp d c t = .lit c t := by unfold stp; rw [if_neg h1, if_pos h2]
theorem n125 : ¬ ((36 : UInt8) = 125 ∧ 1 < d) := fun h => absurd h.1 (by decide)
theorem n36 : ¬ (36 : UInt8) ≠ 36 := fun h => h rfl
theorem S_dd (h : t.getD 0 0 = 36) : stp d 36 t = .lit 36 (t.drop 1) := by unfold stp; rw [if_neg n125, if_neg n36, if_pos h]
theorem S_deep (h : ¬ t.getD 0 0 = 36) (h2 : 8 < d) : stp d 36 t = .bad 9 := by unfold stp; rw [if_neg n125, if_neg n36, if_neg h, if_pos h2]
theorem S_pbad (h : ¬ t.getD 0 0 = 36) (h2 : ¬ 8 < d) (h3 : ¬ t.getD 0 0 = 123) (h4 : isN (t.take (lenN t)) = false) : stp d 36 t = .bad 3 := by unfold stp; rw [if_neg n125, if_neg n36, if_neg h, if_neg h2, if_neg h3, if_pos h4]
theorem S_plain (h : ¬ t.getD 0 0 = 36) (h2 : ¬ 8 < d) (h3 : ¬ t.getD 0 0 = 123) (h4 : isN (t.take (lenN t)) = true) : stp d 36 t = .plain (t.take (lenN t)) (t.drop (lenN t)) := by unfold stp; rw [if_neg n125, if_neg n36, if_neg h, if_neg h2, if_neg h3, if_neg (by rw [h4]; decide)]
theorem n123 (h : t.getD 0 0 = 123) : ¬ t.getD 0 0 = 36 := by rw [h]; decide
theorem S_bbad (h : t.getD 0 0 = 123) (h2 : ¬ 8 < d) (h4 : isN ((t.drop 1).take (lenN (t.drop 1))) = false) : stp d 36 t = .bad 3 := by unfold stp; rw [if_neg n125, if_neg n36, if_neg (n123 h), if_neg h2, if_pos h, if_pos h4]
theorem S_b1 (h : t.getD 0 0 = 123) (h2 : ¬ 8 < d) (h4 : isN ((t.drop 1).take (lenN (t.drop 1))) = true) (h5 : (opN ((t.drop 1).drop (lenN (t.drop 1)))).1 = 1) (h6 : ((t.drop 1).drop (lenN (t.drop 1))).getD 0 0 = 125) :
  stp d 36 t = .plain ((t.drop 1).take (lenN (t.drop 1))) (((t.drop 1).drop (lenN (t.drop 1))).drop 1) := by unfold stp; rw [if_neg n125, if_neg n36, if_neg (n123 h), if_neg h2, if_pos h, if_neg (by rw [h4]; decide), if_pos h5, if_pos h6]
theorem S_b1bad (h : t.getD 0 0 = 123) (h2 : ¬ 8 < d) (h4 : isN ((t.drop 1).take (lenN (t.drop 1))) = true) (h5 : (opN ((t.drop 1).drop (lenN (t.drop 1)))).1 = 1) (h6 : ¬ ((t.drop 1).drop (lenN (t.drop 1))).getD 0 0 = 125) :
  stp d 36 t = .bad 3 := by unfold stp; rw [if_neg n125, if_neg n36, if_neg (n123 h), if_neg h2, if_pos h, if_neg (by rw [h4]; decide), if_pos h5, if_neg h6]
theorem S_brc (h : t.getD 0 0 = 123) (h2 : ¬ 8 < d) (h4 : isN ((t.drop 1).take (lenN (t.drop 1))) = true) (h5 : ¬ (opN ((t.drop 1).drop (lenN (t.drop 1)))).1 = 1) :
  stp d 36 t = .brc ((t.drop 1).take (lenN (t.drop 1))) (opN ((t.drop 1).drop (lenN (t.drop 1)))).1 (((t.drop 1).drop (lenN (t.drop 1))).drop (opN ((t.drop 1).drop (lenN (t.drop 1)))).2) := by unfold stp; rw [if_neg n125, if_neg n36, if_neg (n123 h), if_neg h2, if_pos h, if_neg (by rw [h4]; decide), if_neg h5]
end
theorem fl_nil (done : List Pt) : fl done [] = done := by unfold fl; rw [if_pos rfl]
theorem fl_cons (done : List Pt) (lit : L8) (c : UInt8) : fl done (lit ++ [c]) = done ++ [litP (lit ++ [c])] := by unfold fl; rw [if_neg (by simp)]
theorem fl_len (done : List Pt) (lit : L8) : (fl done lit).length ≤ done.length + lit.length := by
 unfold fl
 split
 ·omega
 ·rename_i h
  have := List.length_pos_iff.2 h
  rw [List.length_append, List.length_singleton]; omega
theorem nolit_nil : Nolit [] := fun j h => absurd h (Nat.not_lt_zero _)
theorem nolit_app (done : List Pt) (p : Pt) (h : p.op ≠ 0) : Nolit (done ++ [p]) := fun j hj e => by
 rw [List.length_append, List.length_singleton] at e
 obtain rfl : j = done.length := by omega
 rw [List.getElem_append_right (Nat.le_refl _)]
 simpa using h
theorem Rwords_any (w W : World) (hB : Below w.heap.size w W) (done : List Pt) (lit : L8) (c : UInt8) (z : Int) (hz : z = (c.toNat : Int)) (v : Value) (h : PtN 84 w W v (fl done lit)) (hn : Nolit done) (hl : done.length ≤ 100000) (hll : lit.length ≤ 1000000) :
  Calls Tryz.prog 57 #[v, .int .u8 z] W fun e w' => ∃ v', e = .returned v' ∧ PtN 84 w w' v' (fl done (lit ++ [c])) ∧ Below w.heap.size w w' := by
 subst hz
 rw [fl_cons]
 by_cases h0 : lit = []
 ·subst h0
  rw [fl_nil] at h
  exact Rwords_new w W hB done c v h hn hl
 ·unfold fl at h
  rw [if_neg h0] at h
  exact Rwords_more w W hB done lit c v h hl hll
def GivesR (s : ByteArray) (R : PR) (w : World) (e : Ending) (w' : World) : Prop := match R with
 | .err er => e = .returned (.tuple #[.slice none 0 0, .int .i64 0, .int .i64 er]) ∧ Below w.heap.size w w'
 | .ok ps r => ∃ v, e = .returned (.tuple #[v, .int .i64 ((s.size - r.length : Nat) : Int), .int .i64 0]) ∧ PtL (Since w w') w' v ps ∧ Below w.heap.size w w'
theorem Rfound_z (s : ByteArray) (at0 E : Nat) (z : Int) (hz : z = (at0 : Int)) (hE : at0 + lenN (s.data.toList.drop at0) = E) (w : World) (h0 : at0 ≤ s.size) (hs : s.size ≤ 1000000) :
  Calls Tryz.prog 58 #[.string s, .int .i64 z] w fun e w' => e = .returned (.int .i64 (E : Int)) ∧ w = w' := by
 subst hz; subst hE
 exact Rfound_any s at0 w h0 hs
theorem BoxP.frozen3 {w : World} {g : Nat} {a b c d : Value} (h : BoxP w g a b c d) : w.frozen? ⟨g, 3, none⟩ = false := by
 unfold BoxP at h
 simp [World.frozen?, h]
theorem BoxP.set3 {w : World} {g : Nat} {a b c d : Value} (h : BoxP w g a b c d) (v : Value) : BoxP (w.setCell ⟨g, 3, none⟩ v) g a b c v := by
 unfold BoxP at h ⊢
 have hlt := (Array.getElem?_eq_some_iff.1 h).1
 unfold World.setCell
 have h2 := (Array.getElem?_eq_some_iff.1 h).2
 simp [hlt, Array.getElem_modify, h2]
theorem sub_keep13 {w wr w4 : World} {W1 : World} {v V X : Value} {sub : List Pt} (h0 : w.heap.size ≤ wr.heap.size) (h1 : W1.heap.size = wr.heap.size + 1) (hs : PtL (Since W1 w4) w4 V sub) (hv : ∀ g, v.ownBlock = some g → g < wr.heap.size) (ob : Obj) :
  PtL (Mine w ((w4.setCell ⟨wr.heap.size, 3, none⟩ X).alloc ob) v) ((w4.setCell ⟨wr.heap.size, 3, none⟩ X).alloc ob) V sub := hs.keep fun b hb => by
 have hb1 := hb.1
 have hb2 := hb.2
 have hsz : (w4.setCell ⟨wr.heap.size, 3, none⟩ X).heap.size = w4.heap.size := by simp [World.setCell]
 refine ⟨⟨by omega, ?_, fun e => by have := hv b e; omega⟩, ?_⟩
 ·have : ((w4.setCell ⟨wr.heap.size, 3, none⟩ X).alloc ob).heap.size = (w4.setCell ⟨wr.heap.size, 3, none⟩ X).heap.size + 1 := by simp
  omega
 ·exact (Below.heap_alloc _ _ b (by omega)).trans (Below.heap_setCell _ _ _ _ (by show b ≠ wr.heap.size; omega))
theorem ext_take13 (s : ByteArray) (a n : Nat) : (s.extract a (a + n)).data.toList = (s.data.toList.drop a).take n := by
 rw [ByteArray.data_extract, Array.toList_extract]
 simp only [List.extract]
 rw [show a + n - a = n by omega]
theorem Rparts_any (N : Nat) : ∀ (s : ByteArray) (a0 d : Nat) (w : World), s.size - a0 < N → a0 ≤ s.size → s.size ≤ 100000 → 1 ≤ d → d ≤ 9 →
  Calls Tryz.prog 42 #[.string s, .int .i64 (a0 : Int), .int .i64 (d : Int)] w (GivesR s (prsA d [] [] (s.data.toList.drop a0)) w) := by
 obtain ⟨i0, hi, hz0, hz1, hz2⟩ := infoP13
 induction N with
 | zero => intro s a0 d w h; omega
 | succ N ih =>
  intro s a0 d w hN ha hs hd1 hd9
  have HIH := hid ih
  obtain ⟨R, hR⟩ : ∃ R, prsA d [] [] (s.data.toList.drop a0) = R := ⟨_, rfl⟩
  rw [hR]
  have HR := hid hR
  have HN0 := hid hN
  have HO0 : Hid (PtN 84 w (w.alloc (.cells #[] 84)) (.slice (some ⟨w.heap.size, 0, none⟩) 0 0) (fl [] [])) := hid (by rw [fl_nil]; exact PtN.of_lit _ w)
  clear ih hR hN
  go_enter Tryz.func42, Tryz.ntmps42
  go_wp2
  go_loopw [1, 9] (fun i out wr => ∃ (k : Nat) (done : List Pt) (lit : L8), k ≤ s.size ∧ a0 ≤ k ∧ done.length + lit.length ≤ k ∧ i = .int .i64 (k : Int) ∧ Hid (PtN 84 w wr out (fl done lit)) ∧ Hid (Below w.heap.size w wr) ∧ Hid (Nolit done) ∧ Hid (prsA d done lit (s.data.toList.drop k) = R)) (fun i _ _ => s.size - (intOf i).toNat)
  case atStart => exact ⟨a0, [], [], ha, Nat.le_refl _, Nat.zero_le _, rfl, HO0, hid ((Below.refl _ _).alloc (Nat.le_refl _) _), hid nolit_nil, HR⟩
  case round =>
   clear HO0 HR
   obtain ⟨k, done, lit, hk, hak, hlen, rfl, HP, HB, HNL, HR⟩ := hrel
   by_cases hlt : k < s.size
   ·have hlz : (k : Int) < (s.size : Int) := by omega
    have hst := drop_c13 s k hlt
    obtain ⟨c, hc⟩ : ∃ c, s[k]'hlt = c := ⟨_, rfl⟩
    rw [hc] at hst
    have hR := HR.out
    rw [hst] at hR
    have kw : IntKind.i64.wrap ((k : Int) + 1) = (k : Int) + 1 := IntWalk.i64_in _ (by omega)
    have e1 : (0 : Int) ≤ (k : Int) + 1 := by omega
    have e2 : ((k : Int) + 1).toNat = k + 1 := by omega
    clear HR
    by_cases h125 : c = 125 ∧ 1 < d
    ·obtain ⟨rfl, hd⟩ := h125
     have HRE : Hid (R = .ok (fl done lit) (125 :: s.data.toList.drop (k + 1))) := hid (by rw [← hR]; exact A_stop (S_stop rfl hd) done lit)
     have hkl : s.size - (125 :: s.data.toList.drop (k + 1)).length = k := by rw [List.length_cons, List.length_drop, len_eq13]; omega
     have HKL := hid hkl
     have b1 : (((125 : UInt8).toNat : Int) == 125) = true := rfl
     have hdz : (1 : Int) < (d : Int) := by omega
     clear hR hst hkl
     go_wp2
     go_ret3
     rw [HRE.out]
     exact ⟨u9, by rw [HKL.out]; rfl, HP.out.done, HB.out⟩
    by_cases h36 : c = 36
    rotate_left
    ·have HR2 : Hid (prsA d done (lit ++ [c]) (s.data.toList.drop (k + 1)) = R) := hid (by rw [← hR]; exact (A_lit (S_lit h125 h36) done lit).symm)
     have b2 : ((c.toNat : Int) == 36) = false := u8_f (d := 36) h36
     have b2' : ((c.toNat : Int) != 36) = true := by rw [bne, b2]; rfl
     clear hR hst
     by_cases hc1 : c = 125
     ·have b1 : ((c.toNat : Int) == 125) = true := u8_t (d := 125) hc1
      have hdz : (d : Int) ≤ 1 := by have : ¬ 1 < d := fun h => h125 ⟨hc1, h⟩; omega
      clear hc1
      go_wp2_with (go_at_call 57; refine (Rwords_any w wr HB.out done lit c _ (by first | rfl | omega) u9 HP.out HNL.out (by omega) (by omega)).mono ?_; rintro e w2 ⟨v2, rfl, hp2, hb2⟩; have HP2 := hid hp2; have HB2 := hid hb2; clear hp2 hb2)
      go_roundw
      case rel => exact ⟨k + 1, done, lit ++ [c], by omega, by omega, by rw [List.length_append, List.length_singleton]; omega, by go_num, HP2, HB2, HNL, HR2⟩
      case measure => simp [intOf]; omega
     ·have b1 : ((c.toNat : Int) == 125) = false := u8_f (d := 125) hc1
      go_wp2_with (go_at_call 57; refine (Rwords_any w wr HB.out done lit c _ (by first | rfl | omega) u9 HP.out HNL.out (by omega) (by omega)).mono ?_; rintro e w2 ⟨v2, rfl, hp2, hb2⟩; have HP2 := hid hp2; have HB2 := hid hb2; clear hp2 hb2)
      go_roundw
      case rel => exact ⟨k + 1, done, lit ++ [c], by omega, by omega, by rw [List.length_append, List.length_singleton]; omega, by go_num, HP2, HB2, HNL, HR2⟩
      case measure => simp [intOf]; omega
    subst h36
    have b1 : (((36 : UInt8).toNat : Int) == 125) = false := rfl
    have b2 : (((36 : UInt8).toNat : Int) == 36) = true := rfl
    have b2' : (((36 : UInt8).toNat : Int) != 36) = false := rfl
    obtain ⟨T, hT⟩ : ∃ T, s.data.toList.drop (k + 1) = T := ⟨_, rfl⟩
    rw [hT] at hst hR
    have hT1 : T.drop 1 = s.data.toList.drop (k + 2) := by rw [← hT, List.drop_drop]
    by_cases hTT : T.getD 0 0 = 36
    ·by_cases h2 : k + 1 < s.size
     rotate_left
     ·rw [← hT, drop_n13 s (k + 1) (by omega)] at hTT; exact absurd hTT (by decide)
     have hlz2 : (k : Int) + 1 < (s.size : Int) := by omega
     have hx := drop_c13 s (k + 1) h2
     have hx2 : s[k + 1]'h2 = 36 := by rw [← hT, hx] at hTT; exact hTT
     have HR2 : Hid (prsA d done (lit ++ [36]) (s.data.toList.drop (k + 2)) = R) := hid (by rw [← hR, A_lit (S_dd hTT), hT1])
     clear hR hst hT1 hTT hT hx
     go_wp2_with (go_at_call 57; refine (Rwords_any w wr HB.out done lit 36 _ (by first | rfl | omega) u9 HP.out HNL.out (by omega) (by omega)).mono ?_; rintro e w2 ⟨v2, rfl, hp2, hb2⟩; have HP2 := hid hp2; have HB2 := hid hb2; clear hp2 hb2)
     go_roundw
     case rel => exact ⟨k + 2, done, lit ++ [36], by omega, by omega, by rw [List.length_append, List.length_singleton]; omega, by go_num, HP2, HB2, HNL, HR2⟩
     case measure => simp [intOf]; omega
    by_cases hB : T.getD 0 0 = 123
    ·by_cases h2 : k + 1 < s.size
     rotate_left
     ·rw [← hT, drop_n13 s (k + 1) (by omega)] at hB; exact absurd hB (by decide)
     have hlz2 : (k : Int) + 1 < (s.size : Int) := by omega
     have hx := drop_c13 s (k + 1) h2
     have hx2 : s[k + 1]'h2 = 123 := by rw [← hT, hx] at hB; exact hB
     have f36 : (((123 : UInt8).toNat : Int) == 36) = false := rfl
     have t123 : (((123 : UInt8).toNat : Int) == 123) = true := rfl
     clear hst hx
     by_cases hd8 : 8 < d
     ·have hdz : (8 : Int) < (d : Int) := by omega
      have HRE : Hid (R = .err 9) := hid (by rw [← hR]; exact A_bad (S_deep hTT hd8) done lit)
      clear hR hT1 hTT hT hB
      go_wp2
      go_ret3
      rw [HRE.out]
      exact ⟨rfl, HB.out⟩
     have hdz : (d : Int) ≤ 8 := by omega
     obtain ⟨T2, hT2⟩ : ∃ T2, T.drop 1 = T2 := ⟨_, rfl⟩
     have hTn : s.data.toList.drop (k + 2) = T2 := by rw [← hT1, hT2]
     have kw2 : IntKind.i64.wrap ((k : Int) + 1 + 1) = (k : Int) + 1 + 1 := IntWalk.i64_in _ (by omega)
     have kw3 : IntKind.i64.wrap ((k : Int) + 2) = (k : Int) + 2 := IntWalk.i64_in _ (by omega)
     have e3 : (0 : Int) ≤ (k : Int) + 1 + 1 := by omega
     have e4 : ((k : Int) + 1 + 1).toNat = k + 2 := by omega
     have e5 : (0 : Int) ≤ (k : Int) + 2 := by omega
     have e6 : ((k : Int) + 2).toNat = k + 2 := by omega
     obtain ⟨E, hE⟩ : ∃ E, k + 2 + lenN T2 = E := ⟨_, rfl⟩
     have hE1 : k + 2 ≤ E := by omega
     have hE2 : E ≤ s.size := by
      have h1 := lenN_le T2
      have h2 : T2.length = s.size - (k + 2) := by rw [← hTn, List.length_drop, len_eq13]
      omega
     obtain ⟨NM, hNM⟩ : ∃ NM, s.extract (k + 2) E = NM := ⟨_, rfl⟩
     obtain ⟨NA, hNA⟩ : ∃ NA, T2.take (lenN T2) = NA := ⟨_, rfl⟩
     have hNN : NM.data.toList = NA := by rw [← hNM, ← hNA, ← hE, ext_take13, hTn]
     have HNA : Hid (ba NA = NM) := hid (by rw [← hNN, ba_of])
     have hNMs : NM.size ≤ 100000 := by rw [← hNM]; simp; omega
     have HFo := hid (fun z hz W => Rfound_z s (k + 2) E z hz (by rw [hTn]; exact hE) W (by omega) (by omega))
     have HVa := hid (fun W => RVariable_any NM W (by unfold maxLen; omega))
     rw [show nm v1 v2 NM.data.toList = isN NA by rw [hNN]; rfl] at HVa
     have HFL : Hid ((fl done lit).length ≤ k ∧ k ≤ 100000) := hid ⟨Nat.le_trans (fl_len done lit) hlen, by omega⟩
     obtain ⟨qs, hqs⟩ := HP.out
     have HQS := hid hqs
     have z0 : (0 : Int) ≤ (E : Int) := by omega
     have z1 : ((k : Int) + 1) ≤ (E : Int) := by omega
     have z2 : (E : Int) ≤ (s.size : Int) := by omega
     have z3 : ((k : Int) + 1 + 1) ≤ (E : Int) := by omega
     have z4 : ((k : Int) + 2) ≤ (E : Int) := by omega
     cases hI : isN NA with
     | false =>
      rw [hI] at HVa
      have HRE : Hid (R = .err 3) := hid (by rw [← hR]; exact A_bad (S_bbad hB hd8 (by rw [hT2, hNA]; exact hI)) done lit)
      clear hR hT1 hTT hT hTn hB hNA hNN hI hE hqs hT2
      go_wp2_with first
       | (go_at_call 58; refine (HFo.out _ (by omega) _).mono ?_; rintro e w2 ⟨rfl, rfl⟩)
       | (go_at_call 31; refine (HVa.out _).mono ?_; rintro e w3 ⟨rfl, rfl⟩)
      go_ret3
      rw [HRE.out]
      exact ⟨rfl, HB.out.alloc HB.out.size _⟩
     | true =>
      rw [hI] at HVa
      have hDE : T2.drop (lenN T2) = s.data.toList.drop E := by rw [← hTn, List.drop_drop, hTn, hE]
      have hopc := opN_cases (s.data.toList.drop E)
      have hDl : (s.data.toList.drop E).length = s.size - E := by rw [List.length_drop, len_eq13]
      have zw : IntKind.i64.wrap (E : Int) = (E : Int) := IntWalk.i64_in _ (by omega)
      have zw1 : IntKind.i64.wrap ((E : Int) + 1) = (E : Int) + 1 := IntWalk.i64_in _ (by omega)
      have zt : (E : Int).toNat = E := by omega
      have HOp0 := fun (z : Int) (hz : z = (E : Int)) W => show Calls Tryz.prog 59 #[.string s, .int .i64 z] W _ from hz ▸ Rop_any s E W (by omega) hE2
      by_cases ho : (opN (s.data.toList.drop E)).1 = 1
      ·have hn0 : (opN (s.data.toList.drop E)).2 = 0 := by rcases hopc with h | h; exact h.2; omega
       rw [ho, hn0] at HOp0
       have HOp := hid HOp0
       by_cases hEs : E < s.size
       ·have zs : (E : Int) < (s.size : Int) := by omega
        have hy := drop_c13 s E hEs
        obtain ⟨y, hy2⟩ : ∃ y, s[E]'hEs = y := ⟨_, rfl⟩
        rw [hy2] at hy
        by_cases hy3 : y = 125
        ·have HR2 : Hid (prsA d (fl done lit ++ [.mk NA [] 1 []]) [] (s.data.toList.drop (E + 1)) = R) := hid (by
          rw [← hR, A_plain (S_b1 hB hd8 (by rw [hT2, hNA]; exact hI) (by rw [hT2, hDE]; exact ho) (by rw [hT2, hDE, hy]; exact hy3)), hT2, hNA, hDE, List.drop_drop])
         have HBX : Hid (Below wr.heap.size wr (wr.alloc (.cells #[.string NM, .string ⟨#[]⟩, .int .i64 1, .slice none 0 0] 84))) := hid ((Below.refl _ _).alloc (Nat.le_refl _) _)
         have y1 : ((y.toNat : Int) == 125) = true := u8_t (d := 125) hy3
         have y2 : ((y.toNat : Int) != 125) = false := by rw [bne, y1]; rfl
         clear hR hT1 hTT hT hTn hB hNA hNN hI hE hqs hT2 hDE hopc hDl HOp0 ho hn0 hy hy3
         go_wp2_with first
          | (go_at_call 58; refine (HFo.out _ (by omega) _).mono ?_; rintro e w2 ⟨rfl, rfl⟩)
          | (go_at_call 31; refine (HVa.out _).mono ?_; rintro e w3 ⟨rfl, rfl⟩)
          | (go_at_call 59; refine (HOp.out _ (by omega) _).mono ?_; rintro e w3 ⟨rfl, rfl⟩)
          | (refine wpList_append_own_at _ rfl _ _ 54 rfl w.heap.size 84 i0 _ 4 64 Tryz.underlying54 hi hz0 hz1 hz2 rfl (by decide) u9 _ (flatQ qs) (by simp [go_sem]) ((HQS.out.go HBX.out).1.alloc _) ⟨(wr.alloc (.cells #[.string NM, .string ⟨#[]⟩, .int .i64 1, .slice none 0 0] 84)).heap.size, 0, none⟩ 1 1 [.string NM, .string ⟨#[]⟩, .int .i64 1, .slice none 0 0] (by simp [go_sem]) rfl (news13 _ _ _) (four13 _ _ _ _ _ _) (by unfold maxLen; have := HFL.out; omega) (by have := HFL.out; omega) (Nat.le_trans (Nat.le_trans HB.out.size HBX.out.size) (by simp)) ?_; intro v5 w5 ho5 hg5 _ hl5; have hp5 : PtQ (Mine w ((wr.alloc (.cells #[.string NM, .string ⟨#[]⟩, .int .i64 1, .slice none 0 0] 84)).alloc (.cells #[.string NM, .string ⟨#[]⟩, .int .i64 1, .slice none 0 0] 84)) u9) ((wr.alloc (.cells #[.string NM, .string ⟨#[]⟩, .int .i64 1, .slice none 0 0] 84)).alloc (.cells #[.string NM, .string ⟨#[]⟩, .int .i64 1, .slice none 0 0] 84)) (.mk NA [] 1 []) ⟨.string NM, .string ⟨#[]⟩, .int .i64 1, .slice none 0 0⟩ := (by rw [← HNA.out]; exact PtC.mk_ (ptL_nil _ _)); obtain ⟨hR5, hB5⟩ := PtN.app HQS.out HBX.out HB.out.size hp5 ho5 hg5 hl5; have HR5 := hid hR5; have HB5 := hid (hB5 _ rfl HB.out); clear hR5 hB5 hp5 ho5 hg5 hl5)
         go_roundw
         case rel => exact ⟨E + 1, fl done lit ++ [.mk NA [] 1 []], [], by omega, by omega, by have := HFL.out; rw [List.length_append, List.length_singleton, List.length_nil]; omega, by go_num, hid (by rw [fl_nil]; exact HR5.out), HB5, hid (nolit_app _ _ (by show (1 : Int) ≠ 0; omega)), HR2⟩
         case measure => simp [intOf]; omega
        ·have HRE : Hid (R = .err 3) := hid (by rw [← hR]; exact A_bad (S_b1bad hB hd8 (by rw [hT2, hNA]; exact hI) (by rw [hT2, hDE]; exact ho) (by rw [hT2, hDE, hy]; exact hy3)) done lit)
         have y1 : ((y.toNat : Int) == 125) = false := u8_f (d := 125) hy3
         have y2 : ((y.toNat : Int) != 125) = true := by rw [bne, y1]; rfl
         clear hR hT1 hTT hT hTn hB hNA hNN hI hE hqs hT2 hDE hopc hDl HOp0 ho hn0 hy hy3
         go_wp2_with first
          | (go_at_call 58; refine (HFo.out _ (by omega) _).mono ?_; rintro e w2 ⟨rfl, rfl⟩)
          | (go_at_call 31; refine (HVa.out _).mono ?_; rintro e w3 ⟨rfl, rfl⟩)
          | (go_at_call 59; refine (HOp.out _ (by omega) _).mono ?_; rintro e w3 ⟨rfl, rfl⟩)
         go_ret3
         rw [HRE.out]
         exact ⟨rfl, HB.out.alloc HB.out.size _⟩
       ·have zs : (s.size : Int) ≤ (E : Int) := by omega
        have HRE : Hid (R = .err 3) := hid (by rw [← hR]; exact A_bad (S_b1bad hB hd8 (by rw [hT2, hNA]; exact hI) (by rw [hT2, hDE]; exact ho) (by rw [hT2, hDE, drop_n13 s E (by omega)]; decide)) done lit)
        clear hR hT1 hTT hT hTn hB hNA hNN hI hE hqs hT2 hDE hopc hDl HOp0 ho hn0
        go_wp2_with first
         | (go_at_call 58; refine (HFo.out _ (by omega) _).mono ?_; rintro e w2 ⟨rfl, rfl⟩)
         | (go_at_call 31; refine (HVa.out _).mono ?_; rintro e w3 ⟨rfl, rfl⟩)
         | (go_at_call 59; refine (HOp.out _ (by omega) _).mono ?_; rintro e w3 ⟨rfl, rfl⟩)
        go_ret3
        rw [HRE.out]
        exact ⟨rfl, HB.out.alloc HB.out.size _⟩
      ·skip
       obtain ⟨o, ho2⟩ : ∃ o, (opN (s.data.toList.drop E)).1 = o := ⟨_, rfl⟩
       obtain ⟨n, hn2⟩ : ∃ n, (opN (s.data.toList.drop E)).2 = n := ⟨_, rfl⟩
       have hon : 2 ≤ o ∧ o ≤ 7 ∧ n ≤ s.size - E := by
        rw [ho2, hn2, hDl] at hopc
        rw [ho2] at ho
        rcases hopc with h | h
        ·exact absurd h.1 ho
        ·exact ⟨h.1, h.2.1, h.2.2.2⟩
       rw [ho2, hn2] at HOp0
       have HOp := hid HOp0
       have hg1 : (1 : Int) < o := by omega
       have hEn : E + n ≤ s.size := by omega
       have w1 : IntKind.i64.wrap ((E : Int) + (n : Int)) = (E : Int) + (n : Int) := IntWalk.i64_in _ (by omega)
       have w2' : IntKind.i64.wrap ((d : Int) + 1) = (d : Int) + 1 := IntWalk.i64_in _ (by omega)
       have hDn : (s.data.toList.drop E).drop n = s.data.toList.drop (E + n) := List.drop_drop
       have hAB := A_brc (S_brc hB hd8 (by rw [hT2, hNA]; exact hI) (by rw [hT2, hDE]; exact ho)) done lit
       rw [hT2, hNA, hDE, ho2, hn2, hDn] at hAB
       have HPa0 := fun (z : Int) (hz : z = (E : Int) + (n : Int)) (zd : Int) (hzd : zd = (d : Int) + 1) W => HIH.out s (E + n) (d + 1) W (by have := HN0.out; omega) hEn (by omega) (by omega) (by omega)
       clear HOp0 hopc ho
       cases hR2 : prsA (d + 1) [] [] (s.data.toList.drop (E + n)) with
       | err er =>
        have hne : er ≠ 0 := by rcases prs_err _ _ _ _ _ _ (Nat.lt_succ_self _) hR2 with rfl | rfl <;> decide
        have hne1 : (er != 0) = true := bne_iff_ne.2 hne
        have hne2 : (er == 0) = false := beq_eq_false_iff_ne.2 hne
        have HRE : Hid (R = .err er) := hid (by rw [← hR, hAB, hR2])
        have HPa : Hid (∀ (z : Int), z = (E : Int) + (n : Int) → ∀ (zd : Int), zd = (d : Int) + 1 → ∀ W, Calls Tryz.prog 42 #[.string s, .int .i64 z, .int .i64 zd] W fun e w' => e = .returned (.tuple #[.slice none 0 0, .int .i64 0, .int .i64 er]) ∧ Below W.heap.size W w') := hid (fun z hz zd hzd W => by
         have h0 := HPa0 z hz zd hzd W
         rw [hR2] at h0
         subst hz; subst hzd
         exact h0)
        clear hR hT1 hTT hT hTn hB hNA hNN hI hE hqs hT2 hDE hDl hDn ho2 hn2 hAB HPa0 hR2 hne
        go_wp2_with first
         | (go_at_call 58; refine (HFo.out _ (by omega) _).mono ?_; rintro e w2 ⟨rfl, rfl⟩)
         | (go_at_call 31; refine (HVa.out _).mono ?_; rintro e w3 ⟨rfl, rfl⟩)
         | (go_at_call 59; refine (HOp.out _ (by omega) _).mono ?_; rintro e w3 ⟨rfl, rfl⟩)
         | (go_at_call 42; refine (HPa.out _ (by omega) _ (by omega) _).mono ?_; rintro e w4 ⟨rfl, hb4⟩; have HB4 := hid ((HB.out.alloc HB.out.size _).trans (hb4.mono (HB.out.alloc HB.out.size _).size)); clear hb4)
        go_ret3
        rw [HRE.out]
        exact ⟨rfl, HB4.out⟩
       | ok sub rest =>
        have hsuf := prsA_suf hR2
        have hrest := suf_drop hsuf
        have hrl := hsuf.length_le
        rw [List.length_drop] at hrl
        rw [len_eq13] at hrest hrl
        obtain ⟨K2, hK2⟩ : ∃ K2, s.size - rest.length = K2 := ⟨_, rfl⟩
        obtain ⟨sl, hsl⟩ : ∃ sl, sub.length = sl := ⟨_, rfl⟩
        have HSL := hid hsl
        have hK3 : E + n ≤ K2 := by omega
        have hK4 : K2 ≤ s.size := by omega
        rw [hK2] at hrest
        have kk0 : (0 : Int) ≤ (K2 : Int) := by omega
        have kk1 : IntKind.i64.wrap ((K2 : Int) + 1) = (K2 : Int) + 1 := IntWalk.i64_in _ (by omega)
        have kk2 : (K2 : Int).toNat = K2 := by omega
        have HPa : Hid (∀ (z : Int), z = (E : Int) + (n : Int) → ∀ (zd : Int), zd = (d : Int) + 1 → ∀ W, Calls Tryz.prog 42 #[.string s, .int .i64 z, .int .i64 zd] W fun e w' => ∃ v, e = .returned (.tuple #[v, .int .i64 (K2 : Int), .int .i64 0]) ∧ PtL (Since W w') w' v sub ∧ Below W.heap.size W w') := hid (fun z hz zd hzd W => by
         have h0 := HPa0 z hz zd hzd W
         rw [hR2] at h0
         subst hz; subst hzd; subst hK2
         exact h0)
        rw [hR2] at hAB
        simp only [] at hAB
        have HOL : Hid (∀ g, Value.ownBlock u9 = some g → g < wr.heap.size) := hid (fun g hg => (hqs.1.lt g hg).2)
        by_cases hKs : K2 < s.size
        ·have ks : (K2 : Int) < (s.size : Int) := by omega
         have hy := drop_c13 s K2 hKs
         obtain ⟨y, hy2⟩ : ∃ y, s[K2]'hKs = y := ⟨_, rfl⟩
         rw [hy2] at hy
         rw [hrest, hy] at hAB
         by_cases hy3 : y = 125
         ·have HR2 : Hid (prsA d (fl done lit ++ [.mk NA [] o sub]) [] (s.data.toList.drop (K2 + 1)) = R) := hid (by
           rw [← hR, hAB, if_pos (show (y :: s.data.toList.drop (K2 + 1)).getD 0 0 = 125 from hy3)]; rfl)
          have y1 : ((y.toNat : Int) == 125) = true := u8_t (d := 125) hy3
          have y2 : ((y.toNat : Int) != 125) = false := by rw [bne, y1]; rfl
          clear hR hT1 hTT hT hTn hB hNA hNN hI hE hqs hT2 hDE hDl hDn ho2 hn2 hAB HPa0 hy hy3 hR2 hrest hsuf hrl hK2 hsl
          go_wp2_with first
           | (go_at_call 58; refine (HFo.out _ (by omega) _).mono ?_; rintro e w2 ⟨rfl, rfl⟩)
           | (go_at_call 31; refine (HVa.out _).mono ?_; rintro e w3 ⟨rfl, rfl⟩)
           | (go_at_call 59; refine (HOp.out _ (by omega) _).mono ?_; rintro e w3 ⟨rfl, rfl⟩)
           | (go_at_call 42; refine (HPa.out _ (by omega) _ (by omega) (wr.alloc (.cells #[.string NM, .string ⟨#[]⟩, .int .i64 o, .slice none 0 0] 84))).mono ?_; rintro e w4 ⟨v4, rfl, hs4, hb4⟩; have hs5 := hs4; obtain ⟨A4, c4, hv4, -⟩ := hs5; rw [HSL.out] at hv4; subst hv4; have hbx4 : BoxP w4 wr.heap.size (.string NM) (.string ⟨#[]⟩) (.int .i64 o) (.slice none 0 0) := (boxP_new wr _ _ _ _).go hb4; have qf := hbx4.frozen3; obtain ⟨q0, q1, q2, q3⟩ := hbx4.cells; obtain ⟨r0, r1, r2, r3⟩ := (hbx4.set3 (.slice A4 sl c4)).cells; have HBX : Hid (Below wr.heap.size wr (w4.setCell ⟨wr.heap.size, 3, none⟩ (.slice A4 sl c4))) := hid ((((Below.refl _ _).alloc (Nat.le_refl _) _).trans (hb4.mono (by simp))).setCell (p := ⟨wr.heap.size, 3, none⟩) (Nat.le_refl _) _); have HSB4 : Hid (∀ ob, PtL (Mine w ((w4.setCell ⟨wr.heap.size, 3, none⟩ (.slice A4 sl c4)).alloc ob) u9) ((w4.setCell ⟨wr.heap.size, 3, none⟩ (.slice A4 sl c4)).alloc ob) (.slice A4 sl c4) sub) := hid (sub_keep13 (W1 := (wr.alloc (.cells #[.string NM, .string ⟨#[]⟩, .int .i64 o, .slice none 0 0] 84))) HB.out.size (by simp) hs4 HOL.out); have hz4 : wr.heap.size < w4.heap.size := (by have := hb4.size; simp at this; omega); clear hbx4 hs4 hb4)
           | (refine wpList_append_own_at _ rfl _ _ 54 rfl w.heap.size 84 i0 _ 4 64 Tryz.underlying54 hi hz0 hz1 hz2 rfl (by decide) u9 _ (flatQ qs) (by simp [go_sem]) ((HQS.out.go HBX.out).1.alloc _) ⟨(w4.setCell ⟨wr.heap.size, 3, none⟩ (.slice A4 sl c4)).heap.size, 0, none⟩ 1 1 [.string NM, .string ⟨#[]⟩, .int .i64 o, .slice A4 sl c4] (by simp [go_sem]) rfl (news13 _ _ _) (four13 _ _ _ _ _ _) (by unfold maxLen; have := HFL.out; omega) (by have := HFL.out; omega) (Nat.le_trans (Nat.le_trans HB.out.size HBX.out.size) (by simp)) ?_; intro v5 w5 ho5 hg5 _ hl5; have hp5 : PtQ (Mine w ((w4.setCell ⟨wr.heap.size, 3, none⟩ (.slice A4 sl c4)).alloc (.cells #[.string NM, .string ⟨#[]⟩, .int .i64 o, .slice A4 sl c4] 84)) u9) ((w4.setCell ⟨wr.heap.size, 3, none⟩ (.slice A4 sl c4)).alloc (.cells #[.string NM, .string ⟨#[]⟩, .int .i64 o, .slice A4 sl c4] 84)) (.mk NA [] o sub) ⟨.string NM, .string ⟨#[]⟩, .int .i64 o, .slice A4 sl c4⟩ := (by rw [← HNA.out]; exact PtC.mk_ (HSB4.out _)); obtain ⟨hR5, hB5⟩ := PtN.app HQS.out HBX.out HB.out.size hp5 ho5 hg5 hl5; have HR5 := hid hR5; have HB5 := hid (hB5 _ rfl HB.out); clear hR5 hB5 hp5 ho5 hg5 hl5)
          go_roundw
          case rel => exact ⟨K2 + 1, fl done lit ++ [.mk NA [] o sub], [], by omega, by omega, by have := HFL.out; rw [List.length_append, List.length_singleton, List.length_nil]; omega, by go_num, hid (by rw [fl_nil]; exact HR5.out), HB5, hid (nolit_app _ _ (by show (o : Int) ≠ 0; omega)), HR2⟩
          case measure => simp [intOf]; omega
         ·have HRE : Hid (R = .err 3) := hid (by
           rw [← hR, hAB, if_neg (show ¬ (y :: s.data.toList.drop (K2 + 1)).getD 0 0 = 125 from hy3)])
          have y1 : ((y.toNat : Int) == 125) = false := u8_f (d := 125) hy3
          have y2 : ((y.toNat : Int) != 125) = true := by rw [bne, y1]; rfl
          clear hR hT1 hTT hT hTn hB hNA hNN hI hE hqs hT2 hDE hDl hDn ho2 hn2 hAB HPa0 hy hy3 hR2 hrest hsuf hrl hK2 hsl
          go_wp2_with first
           | (go_at_call 58; refine (HFo.out _ (by omega) _).mono ?_; rintro e w2 ⟨rfl, rfl⟩)
           | (go_at_call 31; refine (HVa.out _).mono ?_; rintro e w3 ⟨rfl, rfl⟩)
           | (go_at_call 59; refine (HOp.out _ (by omega) _).mono ?_; rintro e w3 ⟨rfl, rfl⟩)
           | (go_at_call 42; refine (HPa.out _ (by omega) _ (by omega) (wr.alloc (.cells #[.string NM, .string ⟨#[]⟩, .int .i64 o, .slice none 0 0] 84))).mono ?_; rintro e w4 ⟨v4, rfl, hs4, hb4⟩; have hs5 := hs4; obtain ⟨A4, c4, hv4, -⟩ := hs5; rw [HSL.out] at hv4; subst hv4; have hbx4 : BoxP w4 wr.heap.size (.string NM) (.string ⟨#[]⟩) (.int .i64 o) (.slice none 0 0) := (boxP_new wr _ _ _ _).go hb4; have qf := hbx4.frozen3; obtain ⟨q0, q1, q2, q3⟩ := hbx4.cells; obtain ⟨r0, r1, r2, r3⟩ := (hbx4.set3 (.slice A4 sl c4)).cells; have HBX : Hid (Below wr.heap.size wr (w4.setCell ⟨wr.heap.size, 3, none⟩ (.slice A4 sl c4))) := hid ((((Below.refl _ _).alloc (Nat.le_refl _) _).trans (hb4.mono (by simp))).setCell (p := ⟨wr.heap.size, 3, none⟩) (Nat.le_refl _) _); have HSB4 : Hid (∀ ob, PtL (Mine w ((w4.setCell ⟨wr.heap.size, 3, none⟩ (.slice A4 sl c4)).alloc ob) u9) ((w4.setCell ⟨wr.heap.size, 3, none⟩ (.slice A4 sl c4)).alloc ob) (.slice A4 sl c4) sub) := hid (sub_keep13 (W1 := (wr.alloc (.cells #[.string NM, .string ⟨#[]⟩, .int .i64 o, .slice none 0 0] 84))) HB.out.size (by simp) hs4 HOL.out); have hz4 : wr.heap.size < w4.heap.size := (by have := hb4.size; simp at this; omega); clear hbx4 hs4 hb4)
          go_ret3
          rw [HRE.out]
          exact ⟨rfl, HB.out.trans (HBX.out.mono HB.out.size)⟩
        ·have ks : (s.size : Int) ≤ (K2 : Int) := by omega
         rw [hrest, drop_n13 s K2 (by omega)] at hAB
         have HRE : Hid (R = .err 3) := hid (by rw [← hR, hAB]; rfl)
         clear hR hT1 hTT hT hTn hB hNA hNN hI hE hqs hT2 hDE hDl hDn ho2 hn2 hAB HPa0 hR2 hrest hsuf hrl hK2 hsl
         go_wp2_with first
          | (go_at_call 58; refine (HFo.out _ (by omega) _).mono ?_; rintro e w2 ⟨rfl, rfl⟩)
          | (go_at_call 31; refine (HVa.out _).mono ?_; rintro e w3 ⟨rfl, rfl⟩)
          | (go_at_call 59; refine (HOp.out _ (by omega) _).mono ?_; rintro e w3 ⟨rfl, rfl⟩)
          | (go_at_call 42; refine (HPa.out _ (by omega) _ (by omega) (wr.alloc (.cells #[.string NM, .string ⟨#[]⟩, .int .i64 o, .slice none 0 0] 84))).mono ?_; rintro e w4 ⟨v4, rfl, hs4, hb4⟩; have hs5 := hs4; obtain ⟨A4, c4, hv4, -⟩ := hs5; rw [HSL.out] at hv4; subst hv4; have hbx4 : BoxP w4 wr.heap.size (.string NM) (.string ⟨#[]⟩) (.int .i64 o) (.slice none 0 0) := (boxP_new wr _ _ _ _).go hb4; have qf := hbx4.frozen3; obtain ⟨q0, q1, q2, q3⟩ := hbx4.cells; obtain ⟨r0, r1, r2, r3⟩ := (hbx4.set3 (.slice A4 sl c4)).cells; have HBX : Hid (Below wr.heap.size wr (w4.setCell ⟨wr.heap.size, 3, none⟩ (.slice A4 sl c4))) := hid ((((Below.refl _ _).alloc (Nat.le_refl _) _).trans (hb4.mono (by simp))).setCell (p := ⟨wr.heap.size, 3, none⟩) (Nat.le_refl _) _); have HSB4 : Hid (∀ ob, PtL (Mine w ((w4.setCell ⟨wr.heap.size, 3, none⟩ (.slice A4 sl c4)).alloc ob) u9) ((w4.setCell ⟨wr.heap.size, 3, none⟩ (.slice A4 sl c4)).alloc ob) (.slice A4 sl c4) sub) := hid (sub_keep13 (W1 := (wr.alloc (.cells #[.string NM, .string ⟨#[]⟩, .int .i64 o, .slice none 0 0] 84))) HB.out.size (by simp) hs4 HOL.out); have hz4 : wr.heap.size < w4.heap.size := (by have := hb4.size; simp at this; omega); clear hbx4 hs4 hb4)
         go_ret3
         rw [HRE.out]
         exact ⟨rfl, HB.out.trans (HBX.out.mono HB.out.size)⟩
    by_cases h2 : k + 1 < s.size
    ·have hlz2 : (k : Int) + 1 < (s.size : Int) := by omega
     have hx := drop_c13 s (k + 1) h2
     obtain ⟨x, hx2⟩ : ∃ x, s[k + 1]'h2 = x := ⟨_, rfl⟩
     have hTx : T.getD 0 0 = x := by rw [← hT, hx, hx2]; rfl
     have f36 : ((x.toNat : Int) == 36) = false := u8_f (d := 36) (by rw [← hTx]; exact hTT)
     have f123 : ((x.toNat : Int) == 123) = false := u8_f (d := 123) (by rw [← hTx]; exact hB)
     clear hst hx hTx
     by_cases hd8 : 8 < d
     ·have hdz : (8 : Int) < (d : Int) := by omega
      have HRE : Hid (R = .err 9) := hid (by rw [← hR]; exact A_bad (S_deep hTT hd8) done lit)
      clear hR hT1 hTT hT hB
      go_wp2
      go_ret3
      rw [HRE.out]
      exact ⟨rfl, HB.out⟩
     have hdz : (d : Int) ≤ 8 := by omega
     have hTn : s.data.toList.drop (k + 1) = T := hT
     obtain ⟨E, hE⟩ : ∃ E, k + 1 + lenN T = E := ⟨_, rfl⟩
     have hE1 : k + 1 ≤ E := by omega
     have hE2 : E ≤ s.size := by
      have h1 := lenN_le T
      have h2 : T.length = s.size - (k + 1) := by rw [← hTn, List.length_drop, len_eq13]
      omega
     obtain ⟨NM, hNM⟩ : ∃ NM, s.extract (k + 1) E = NM := ⟨_, rfl⟩
     obtain ⟨NA, hNA⟩ : ∃ NA, T.take (lenN T) = NA := ⟨_, rfl⟩
     have hNN : NM.data.toList = NA := by rw [← hNM, ← hNA, ← hE, ext_take13, hTn]
     have HNA : Hid (ba NA = NM) := hid (by rw [← hNN, ba_of])
     have hNMs : NM.size ≤ 100000 := by rw [← hNM]; simp; omega
     have HFo := hid (fun z hz W => Rfound_z s (k + 1) E z hz (by rw [hTn]; exact hE) W (by omega) (by omega))
     have HVa := hid (fun W => RVariable_any NM W (by unfold maxLen; omega))
     rw [show nm v1 v2 NM.data.toList = isN NA by rw [hNN]; rfl] at HVa
     have HFL : Hid ((fl done lit).length ≤ k ∧ k ≤ 100000) := hid ⟨Nat.le_trans (fl_len done lit) hlen, by omega⟩
     obtain ⟨qs, hqs⟩ := HP.out
     have HQS := hid hqs
     have z0 : (0 : Int) ≤ (E : Int) := by omega
     have z1 : ((k : Int) + 1) ≤ (E : Int) := by omega
     have z2 : (E : Int) ≤ (s.size : Int) := by omega
     cases hI : isN NA with
     | false =>
      rw [hI] at HVa
      have HRE : Hid (R = .err 3) := hid (by rw [← hR]; exact A_bad (S_pbad hTT hd8 hB (by rw [hNA]; exact hI)) done lit)
      clear hR hT1 hTT hT hTn hB hNA hNN hI hE hqs
      go_wp2_with first
       | (go_at_call 58; refine (HFo.out _ (by omega) _).mono ?_; rintro e w2 ⟨rfl, rfl⟩)
       | (go_at_call 31; refine (HVa.out _).mono ?_; rintro e w3 ⟨rfl, rfl⟩)
      go_ret3
      rw [HRE.out]
      exact ⟨rfl, HB.out.alloc HB.out.size _⟩
     | true =>
      rw [hI] at HVa
      have HR2 : Hid (prsA d (fl done lit ++ [.mk NA [] 1 []]) [] (s.data.toList.drop E) = R) := hid (by
       rw [← hR, A_plain (S_plain hTT hd8 hB (by rw [hNA]; exact hI)), hNA, ← hT, List.drop_drop, hT, hE])
      have HBX : Hid (Below wr.heap.size wr (wr.alloc (.cells #[.string NM, .string ⟨#[]⟩, .int .i64 1, .slice none 0 0] 84))) := hid ((Below.refl _ _).alloc (Nat.le_refl _) _)
      clear hR hT1 hTT hT hTn hB hNA hNN hI hE hqs
      go_wp2_with first
       | (go_at_call 58; refine (HFo.out _ (by omega) _).mono ?_; rintro e w2 ⟨rfl, rfl⟩)
       | (go_at_call 31; refine (HVa.out _).mono ?_; rintro e w3 ⟨rfl, rfl⟩)
       | (refine wpList_append_own_at _ rfl _ _ 54 rfl w.heap.size 84 i0 _ 4 64 Tryz.underlying54 hi hz0 hz1 hz2 rfl (by decide) u9 _ (flatQ qs) (by simp [go_sem]) ((HQS.out.go HBX.out).1.alloc _) ⟨(wr.alloc (.cells #[.string NM, .string ⟨#[]⟩, .int .i64 1, .slice none 0 0] 84)).heap.size, 0, none⟩ 1 1 [.string NM, .string ⟨#[]⟩, .int .i64 1, .slice none 0 0] (by simp [go_sem]) rfl (news13 _ _ _) (four13 _ _ _ _ _ _) (by unfold maxLen; have := HFL.out; omega) (by have := HFL.out; omega) (Nat.le_trans (Nat.le_trans HB.out.size HBX.out.size) (by simp)) ?_; intro v5 w5 ho5 hg5 _ hl5; have hp5 : PtQ (Mine w ((wr.alloc (.cells #[.string NM, .string ⟨#[]⟩, .int .i64 1, .slice none 0 0] 84)).alloc (.cells #[.string NM, .string ⟨#[]⟩, .int .i64 1, .slice none 0 0] 84)) u9) ((wr.alloc (.cells #[.string NM, .string ⟨#[]⟩, .int .i64 1, .slice none 0 0] 84)).alloc (.cells #[.string NM, .string ⟨#[]⟩, .int .i64 1, .slice none 0 0] 84)) (.mk NA [] 1 []) ⟨.string NM, .string ⟨#[]⟩, .int .i64 1, .slice none 0 0⟩ := (by rw [← HNA.out]; exact PtC.mk_ (ptL_nil _ _)); obtain ⟨hR5, hB5⟩ := PtN.app HQS.out HBX.out HB.out.size hp5 ho5 hg5 hl5; have HR5 := hid hR5; have HB5 := hid (hB5 _ rfl HB.out); clear hR5 hB5 hp5 ho5 hg5 hl5)
      go_roundw
      case rel => exact ⟨E, fl done lit ++ [.mk NA [] 1 []], [], by omega, by omega, by have := HFL.out; rw [List.length_append, List.length_singleton, List.length_nil]; omega, by go_num, hid (by rw [fl_nil]; exact HR5.out), HB5, hid (nolit_app _ _ (by show (1 : Int) ≠ 0; omega)), HR2⟩
      case measure => simp [intOf]; omega
    ·have hlz2 : (s.size : Int) ≤ (k : Int) + 1 := by omega
     clear hst
     by_cases hd8 : 8 < d
     ·have hdz : (8 : Int) < (d : Int) := by omega
      have HRE : Hid (R = .err 9) := hid (by rw [← hR]; exact A_bad (S_deep hTT hd8) done lit)
      clear hR hT1 hTT hT hB
      go_wp2
      go_ret3
      rw [HRE.out]
      exact ⟨rfl, HB.out⟩
     have hdz : (d : Int) ≤ 8 := by omega
     have hTn : s.data.toList.drop (k + 1) = T := hT
     obtain ⟨E, hE⟩ : ∃ E, k + 1 + lenN T = E := ⟨_, rfl⟩
     have hE1 : k + 1 ≤ E := by omega
     have hE2 : E ≤ s.size := by
      have h1 := lenN_le T
      have h2 : T.length = s.size - (k + 1) := by rw [← hTn, List.length_drop, len_eq13]
      omega
     obtain ⟨NM, hNM⟩ : ∃ NM, s.extract (k + 1) E = NM := ⟨_, rfl⟩
     obtain ⟨NA, hNA⟩ : ∃ NA, T.take (lenN T) = NA := ⟨_, rfl⟩
     have hNN : NM.data.toList = NA := by rw [← hNM, ← hNA, ← hE, ext_take13, hTn]
     have HNA : Hid (ba NA = NM) := hid (by rw [← hNN, ba_of])
     have hNMs : NM.size ≤ 100000 := by rw [← hNM]; simp; omega
     have HFo := hid (fun z hz W => Rfound_z s (k + 1) E z hz (by rw [hTn]; exact hE) W (by omega) (by omega))
     have HVa := hid (fun W => RVariable_any NM W (by unfold maxLen; omega))
     rw [show nm v1 v2 NM.data.toList = isN NA by rw [hNN]; rfl] at HVa
     have HFL : Hid ((fl done lit).length ≤ k ∧ k ≤ 100000) := hid ⟨Nat.le_trans (fl_len done lit) hlen, by omega⟩
     obtain ⟨qs, hqs⟩ := HP.out
     have HQS := hid hqs
     have z0 : (0 : Int) ≤ (E : Int) := by omega
     have z1 : ((k : Int) + 1) ≤ (E : Int) := by omega
     have z2 : (E : Int) ≤ (s.size : Int) := by omega
     cases hI : isN NA with
     | false =>
      rw [hI] at HVa
      have HRE : Hid (R = .err 3) := hid (by rw [← hR]; exact A_bad (S_pbad hTT hd8 hB (by rw [hNA]; exact hI)) done lit)
      clear hR hT1 hTT hT hTn hB hNA hNN hI hE hqs
      go_wp2_with first
       | (go_at_call 58; refine (HFo.out _ (by omega) _).mono ?_; rintro e w2 ⟨rfl, rfl⟩)
       | (go_at_call 31; refine (HVa.out _).mono ?_; rintro e w3 ⟨rfl, rfl⟩)
      go_ret3
      rw [HRE.out]
      exact ⟨rfl, HB.out.alloc HB.out.size _⟩
     | true =>
      rw [hI] at HVa
      have HR2 : Hid (prsA d (fl done lit ++ [.mk NA [] 1 []]) [] (s.data.toList.drop E) = R) := hid (by
       rw [← hR, A_plain (S_plain hTT hd8 hB (by rw [hNA]; exact hI)), hNA, ← hT, List.drop_drop, hT, hE])
      have HBX : Hid (Below wr.heap.size wr (wr.alloc (.cells #[.string NM, .string ⟨#[]⟩, .int .i64 1, .slice none 0 0] 84))) := hid ((Below.refl _ _).alloc (Nat.le_refl _) _)
      clear hR hT1 hTT hT hTn hB hNA hNN hI hE hqs
      go_wp2_with first
       | (go_at_call 58; refine (HFo.out _ (by omega) _).mono ?_; rintro e w2 ⟨rfl, rfl⟩)
       | (go_at_call 31; refine (HVa.out _).mono ?_; rintro e w3 ⟨rfl, rfl⟩)
       | (refine wpList_append_own_at _ rfl _ _ 54 rfl w.heap.size 84 i0 _ 4 64 Tryz.underlying54 hi hz0 hz1 hz2 rfl (by decide) u9 _ (flatQ qs) (by simp [go_sem]) ((HQS.out.go HBX.out).1.alloc _) ⟨(wr.alloc (.cells #[.string NM, .string ⟨#[]⟩, .int .i64 1, .slice none 0 0] 84)).heap.size, 0, none⟩ 1 1 [.string NM, .string ⟨#[]⟩, .int .i64 1, .slice none 0 0] (by simp [go_sem]) rfl (news13 _ _ _) (four13 _ _ _ _ _ _) (by unfold maxLen; have := HFL.out; omega) (by have := HFL.out; omega) (Nat.le_trans (Nat.le_trans HB.out.size HBX.out.size) (by simp)) ?_; intro v5 w5 ho5 hg5 _ hl5; have hp5 : PtQ (Mine w ((wr.alloc (.cells #[.string NM, .string ⟨#[]⟩, .int .i64 1, .slice none 0 0] 84)).alloc (.cells #[.string NM, .string ⟨#[]⟩, .int .i64 1, .slice none 0 0] 84)) u9) ((wr.alloc (.cells #[.string NM, .string ⟨#[]⟩, .int .i64 1, .slice none 0 0] 84)).alloc (.cells #[.string NM, .string ⟨#[]⟩, .int .i64 1, .slice none 0 0] 84)) (.mk NA [] 1 []) ⟨.string NM, .string ⟨#[]⟩, .int .i64 1, .slice none 0 0⟩ := (by rw [← HNA.out]; exact PtC.mk_ (ptL_nil _ _)); obtain ⟨hR5, hB5⟩ := PtN.app HQS.out HBX.out HB.out.size hp5 ho5 hg5 hl5; have HR5 := hid hR5; have HB5 := hid (hB5 _ rfl HB.out); clear hR5 hB5 hp5 ho5 hg5 hl5)
      go_roundw
      case rel => exact ⟨E, fl done lit ++ [.mk NA [] 1 []], [], by omega, by omega, by have := HFL.out; rw [List.length_append, List.length_singleton, List.length_nil]; omega, by go_num, hid (by rw [fl_nil]; exact HR5.out), HB5, hid (nolit_app _ _ (by show (1 : Int) ≠ 0; omega)), HR2⟩
      case measure => simp [intOf]; omega
   ·obtain rfl : k = s.size := by omega
    have HRE : Hid (R = .ok (fl done lit) []) := hid (by rw [← HR.out, drop_n13 s s.size (Nat.le_refl _), A_nil])
    go_wp2
    go_ret3
    rw [HRE.out]
    exact ⟨u9, rfl, HP.out.done, HB.out⟩
end
end Go.Proofs.YtkcilmmaggmmoaaGreatDoor
