/- RefFlo6, RefFlo7 -/
import Derived.Test.YtecglpocmhkkiaaGreatDoorPT10
import Derived.Test.YtecglpocmhkkiaaGreatDoorPT23
set_option linter.unusedVariables false
set_option linter.unusedSimpArgs false
set_option maxRecDepth 100000
set_option maxHeartbeats 16000000
open Go.Lib (hid)
namespace Go.Proofs.YtecglpocmhkkiaaGreatDoor
section
open Go.RowKit Go.Sort
open Nw N8 Q6 F9 Go.ChangeShapes Go.WideShapes
def POf (s : ByteArray) (n M : Nat) : Prop := ∀ k, k ≤ n → 2 * (n - k) + 1 ≤ M → ∀ w, Calls Tryz.prog 120 #[.string s, .int .i64 (k : Int)] w (GotV k (prsR (s.data.toList.drop k)) w)
theorem far_keys {W0 W1 W2 : World} {s7 : Value} (hb : Below W0.heap.size W0 W1) (hg : W1.grownBy W2 s7.ownBlock) (s' : Value) {lo OUT : Nat} (hO : OUT < lo) (h7 : ∀ g, s7.ownBlock = some g → g < lo) {b : Nat} (h1 : lo ≤ b) (h2 : b < W0.heap.size) (i : Nat) :
  (W2.setCell ⟨OUT, i, none⟩ s').heap[b]? = W0.heap[b]? := by
 have e1 : (W2.setCell ⟨OUT, i, none⟩ s').heap[b]? = W2.heap[b]? := set_oth _ _ _ _ (by show b ≠ OUT; omega)
 rw [e1]
 have hs := hb.size
 exact (hg.block b (by omega) fun e => by have := h7 b e.symm; omega).trans (hb.block b h2)
theorem Rpairs_any (s : ByteArray) (n : Nat) (hn : s.size = n) (hs : n ≤ 100000) (M : Nat) (ih : VOf s n M) : POf s n (M + 1) := by
 intro k hk hM w
 have hlen : s.data.toList.length = n := (len_eq s).trans hn
 obtain ⟨k1, hk1⟩ : ∃ k1, k + blk (s.data.toList.drop k) = k1 := ⟨_, rfl⟩
 have hk1n : k1 ≤ n := by
  have := blk_le (s.data.toList.drop k)
  rw [List.length_drop, hlen] at this
  omega
 have HBK := hid (fun (j : Nat) (hj : j ≤ n) R hR W => Rblanks_any s j W n hn (by omega) hj R hR)
 have HIS := hid (fun (c : UInt8) hc (j : Nat) b h W => Ris_any s j c hc W n hn (by omega) b h)
 have HLEN := hid hlen
 have HK1 := hid hk1
 have HIH := hid ih
 have HM := hid hM
 have HN := hid hn
 obtain ⟨R, hR⟩ : ∃ R, prsR (s.data.toList.drop k) = R := ⟨_, rfl⟩
 rw [hR]
 generalize hW0 : w.alloc (.cells #[.int .i64 0, .string ⟨#[]⟩, .slice none 0 0, .slice none 0 0] 26) = W0 at *
 have hsz : W0.heap.size = w.heap.size + 1 := by rw [← hW0]; simp
 have hb0 : Below w.heap.size w W0 := by rw [← hW0]; exact (Below.refl _ _).alloc (Nat.le_refl _) _
 have hr0 : Row4 W0 w.heap.size 26 (.int .i64 0) (.string ⟨#[]⟩) (.slice none 0 0) (.slice none 0 0) := by rw [← hW0]; exact Row4.make w _ _ _ _ _
 have HG : Hid (∀ W W' : World, (Below w.heap.size w W ∧ Row4 W w.heap.size 26 (.int .i64 0) (.string ⟨#[]⟩) (.slice none 0 0) (.slice none 0 0)) → Below W0.heap.size W W' → (Below w.heap.size w W' ∧ Row4 W' w.heap.size 26 (.int .i64 0) (.string ⟨#[]⟩) (.slice none 0 0) (.slice none 0 0))) := hid fun W W' h hb => ⟨h.1.trans (hb.mono (by omega)), h.2.below hb (by omega)⟩
 have hal : Below W0.heap.size W0 (W0.alloc (.cells #[.int .i64 3, .string ⟨#[]⟩, .slice none 0 0, .slice none 0 0] 26)) := (Below.refl _ _).alloc (Nat.le_refl _) _
 have HR : Hid (RZ (fun _ => False) W0.heap.size (fun W => Below w.heap.size w W ∧ Row4 W w.heap.size 26 (.int .i64 0) (.string ⟨#[]⟩) (.slice none 0 0) (.slice none 0 0)) (W0.alloc (.cells #[.int .i64 3, .string ⟨#[]⟩, .slice none 0 0, .slice none 0 0] 26)) 3 ⟨#[]⟩ (.slice none 0 0) [] (.slice none 0 0) []) := hid
  ⟨fun b hb => hb.elim, HG.out _ _ ⟨hb0, hr0⟩ hal, Row4.make W0 _ _ _ _ _, World.ownsRow_nil _ _ _ _, [], World.ownsRow_nil _ _ _ _, rfl, fun j hj => absurd hj (Nat.not_lt_zero _)⟩
 have HL := hid hsz
 have HRR := hid hR
 obtain ⟨j0t, hj0, hy0, hy1, hy2⟩ := infoN
 obtain ⟨i0t, hi0, hz0, hz1, hz2⟩ := infoS
 have wk1 : IntKind.i64.wrap ((k1 : Int) + 1) = (k1 : Int) + 1 := IntWalk.i64_in _ (by omega)
 cases h93 : isC 125 ((s.data.toList.drop k1).headD 0) with
 | true =>
  have HI := hid h93
  have HX : Hid (R = some (.mk 3 [] [] [], blk (s.data.toList.drop k) + 1)) := hid (by
   rw [← hR]
   unfold prsR
   rw [List.drop_drop, hk1, if_pos (isC_iff.1 h93)])
  clear h93 hlen hk1 ih hM hR hsz hb0 hr0 hal hj0 hy0 hy1 hy2 hi0 hz0 hz1 hz2
  go_enter Tryz.func120, Tryz.ntmps120
  go_wp2_with fail
  generalize W0.alloc (.cells #[.int .i64 3, .string ⟨#[]⟩, .slice none 0 0, .slice none 0 0] 26) = W1 at *
  generalize W0.heap.size = OUT at *
  clear hW0
  refine (HBK.out k hk k1 HK1.out _).mono ?_
  rintro e w' ⟨rfl, rfl⟩
  go_wp2_with fail
  refine (HIS.out 125 (by decide) k1 true HI.out _).mono ?_
  rintro e w' ⟨rfl, rfl⟩
  obtain ⟨z0, z1, z2, z3⟩ := HR.out.2.2.1.cells
  obtain ⟨r0, r1, r2, r3⟩ := HR.out.2.1.2.cells
  obtain ⟨fr0, fr1, fr2, fr3⟩ := HR.out.2.1.2.frozen
  have HD := hid (out_ret HR.out HR.out.2.1.1 HL.out)
  go_wp2
  refine bodyPost_ret (v := .tuple #[.agg #[.int .i64 3, .string ⟨#[]⟩, .slice none 0 0, .slice none 0 0], .int .i64 ((k1 : Int) + 1)]) (by simp [results, Tryz.results120, go_sem, r0, r1, r2, r3]) rfl ⟨_, _, _, _, _, _, _, _, by rw [HX.out]; exact ret_ai (by have := HK1.out; show (k1 : Int) + 1 = ((k + (blk (s.data.toList.drop k) + 1) : Nat) : Int); omega), HD.out.1, ?_⟩
  intro p hp
  rw [HX.out] at hp
  injection hp with hp
  subst hp
  exact HD.out.2
 | false =>
  have HI := hid h93
  have HRA : Hid (prsA s.data.toList k1 [] [] = R.map (bump k)) := hid (by
   rw [prsA_blk hk1, ← hR]
   unfold prsA prsR
   rw [List.drop_drop, hk1, if_neg (fun e => by rw [isC_iff.2 e] at h93; cases h93)])
  clear h93 hlen hk1 ih hM hR hsz hb0 hr0 hal
  go_enter Tryz.func120, Tryz.ntmps120
  go_wp2_with fail
  generalize W0.alloc (.cells #[.int .i64 3, .string ⟨#[]⟩, .slice none 0 0, .slice none 0 0] 26) = W1 at *
  generalize W0.heap.size = OUT at *
  clear hW0
  refine (HBK.out k hk k1 HK1.out _).mono ?_
  rintro e w' ⟨rfl, rfl⟩
  go_wp2_with fail
  refine (HIS.out 125 (by decide) k1 false HI.out _).mono ?_
  rintro e w' ⟨rfl, rfl⟩
  have HK1n := hid (And.intro hk1n hk)
  clear wk1 hk1n
  go_wp2
  go_loopw [1, 7, 8, 9, 10] (fun s1 s7 s8 s9 s10 wr => ∃ (j : Nat) (sk su : Value) (ak : List L8) (ad : List Nd), j ≤ n ∧ ad.length ≤ j ∧ ak.length ≤ j ∧ s1 = .int .i64 (j : Int) ∧ Hid (k1 ≤ j) ∧ Hid (RZ (fun _ => False) OUT (fun W => Below w.heap.size w W ∧ Row4 W w.heap.size 26 (.int .i64 0) (.string ⟨#[]⟩) (.slice none 0 0) (.slice none 0 0)) wr 3 ⟨#[]⟩ sk ak su ad) ∧ Hid (prsA s.data.toList j ak ad = R.map (bump k))) (fun s1 _ _ _ _ _ => n - (intOf s1).toNat)
  case atStart => exact ⟨k1, _, _, [], [], HK1n.out.1, Nat.zero_le _, Nat.zero_le _, rfl, hid (Nat.le_refl _), HR, HRA⟩
  case round =>
   clear HR HRA HI
   obtain ⟨j, sk, su, ak, ad, hj, hacc, hacck, rfl, HKJ, HR, HRA⟩ := hrel
   obtain ⟨jb, hjb⟩ : ∃ jb, j + blk (s.data.toList.drop j) = jb := ⟨_, rfl⟩
   have hjbn : jb ≤ n := by
    have := blk_le (s.data.toList.drop j)
    rw [List.length_drop, HLEN.out] at this
    omega
   have HJB := hid hjb
   have hjj : j ≤ jb := by omega
   cases hkey : keyP (s.data.toList.drop jb) with
   | none =>
    have HX : Hid (R = none) := hid (by
     have := HRA.out
     rw [prsA_none HJB.out hkey] at this
     cases R with
     | none => rfl
     | some p => cases this)
    have HKEY := hid (fun W => Rkey_any s j W n HN.out hs hj jb hjb none hkey ⟨#[]⟩ rfl (-1) rfl)
    clear hjb hkey HRA
    go_wp2_with fail
    refine (HKEY.out _).mono ?_
    rintro e w1 ⟨rfl, hb1⟩
    replace HR := hid (HR.out.go HG.out hb1)
    clear hb1
    obtain ⟨z0, z1, z2, z3⟩ := HR.out.2.2.1.cells
    obtain ⟨r0, r1, r2, r3⟩ := HR.out.2.1.2.cells
    obtain ⟨fr0, fr1, fr2, fr3⟩ := HR.out.2.1.2.frozen
    obtain ⟨hK, hck, rfl⟩ := own_shape HR.out.2.2.2.1
    obtain ⟨hA, hcq, rfl⟩ := own_shape HR.out.2.2.2.2.choose_spec.1
    have HD := hid (out_ret HR.out HR.out.2.1.1 HL.out)
    obtain ⟨lk9, hlk9⟩ : ∃ lk, ak.length = lk := ⟨_, rfl⟩
    rw [hlk9] at HR HD z2
    clear hlk9
    obtain ⟨ln9, hln9⟩ : ∃ ln, ad.length = ln := ⟨_, rfl⟩
    rw [hln9] at HR HD z3
    clear hln9
    go_wp2
    refine bodyPost_ret (v := .tuple #[.agg #[.int .i64 3, .string ⟨#[]⟩, .slice hK lk9 hck, .slice hA ln9 hcq], .int .i64 (-1)]) (by simp [results, Tryz.results120, go_sem, r0, r1, r2, r3]) rfl ⟨_, _, _, _, _, _, _, _, by rw [HX.out]; exact ret_ai (by rfl), HD.out.1, ?_⟩
    intro p hp
    rw [HX.out] at hp
    cases hp
   | some p =>
    obtain ⟨x, i⟩ := p
    obtain ⟨hkf1, hkf2⟩ := (key_facts hkey).2
    rw [List.length_drop, HLEN.out] at hkf2
    obtain ⟨Q, hQQ⟩ : ∃ Q, ba x = Q := ⟨_, rfl⟩
    have hQl : Q.data.toList = x := by rw [← hQQ, ba_data]
    clear hQQ
    subst hQl
    obtain ⟨nk, hnk⟩ : ∃ nk, jb + i = nk := ⟨_, rfl⟩
    have HKEY := hid (fun W => Rkey_any s j W n HN.out hs hj jb hjb (some (Q.data.toList, i)) hkey Q rfl (nk : Int) (by rw [← hnk]; rfl))
    have hnkn : nk ≤ n := by omega
    have hjnk : j < nk := by omega
    obtain ⟨a, ha⟩ : ∃ a, nk + blk (s.data.toList.drop nk) = a := ⟨_, rfl⟩
    have han : a ≤ n := by
     have := blk_le (s.data.toList.drop nk)
     rw [List.length_drop, HLEN.out] at this
     omega
    have hnka : nk ≤ a := by omega
    have HA : Hid (jb + i + blk (s.data.toList.drop (jb + i)) = a) := hid (by rw [hnk]; exact ha)
    have HV := hid (HIH.out nk hnkn a ha (by have := HM.out; have := HKJ.out; have := HK1.out; omega))
    have HKY := hid hkey
    have hng : ¬ (nk : Int) < 0 := by omega
    have hngd : decide ((nk : Int) < 0) = false := decide_eq_false hng
    have HIN := hid (fun (b : Bool) (hb : decide (Q.data.toList ∈ ak) = b) W (hW : Rd W sk ak) => hb ▸ RIn_any sk ak Q W hW)
    clear hjb hkey ha hnk hkf1 hkf2
    cases hin : decide (Q.data.toList ∈ ak) with
    | true =>
     have HX : Hid (R = none) := hid (by
      have := HRA.out
      rw [prsA_twice HJB.out HKY.out (of_decide_eq_true hin)] at this
      cases R with
      | none => rfl
      | some p => cases this)
     have HINB := hid (HIN.out true hin)
     clear hin HRA HKY HIN
     go_wp2_with fail
     refine (HKEY.out _).mono ?_
     rintro e w1 ⟨rfl, hb1⟩
     replace HR := hid (HR.out.go HG.out hb1)
     clear hb1
     obtain ⟨z0, z1, z2, z3⟩ := HR.out.2.2.1.cells
     go_wp2_with fail
     refine (HINB.out _ (rd_of_owns HR.out.2.2.2.1)).mono ?_
     rintro e w' ⟨rfl, rfl⟩
     clear z0 z1 z2 z3
     obtain ⟨z0, z1, z2, z3⟩ := HR.out.2.2.1.cells
     obtain ⟨r0, r1, r2, r3⟩ := HR.out.2.1.2.cells
     obtain ⟨fr0, fr1, fr2, fr3⟩ := HR.out.2.1.2.frozen
     obtain ⟨hK, hck, rfl⟩ := own_shape HR.out.2.2.2.1
     obtain ⟨hA, hcq, rfl⟩ := own_shape HR.out.2.2.2.2.choose_spec.1
     have HD := hid (out_ret HR.out HR.out.2.1.1 HL.out)
     obtain ⟨lk9, hlk9⟩ : ∃ lk, ak.length = lk := ⟨_, rfl⟩
     rw [hlk9] at HR HD z2
     clear hlk9
     obtain ⟨ln9, hln9⟩ : ∃ ln, ad.length = ln := ⟨_, rfl⟩
     rw [hln9] at HR HD z3
     clear hln9
     go_wp2
     refine bodyPost_ret (v := .tuple #[.agg #[.int .i64 3, .string ⟨#[]⟩, .slice hK lk9 hck, .slice hA ln9 hcq], .int .i64 (-1)]) (by simp [results, Tryz.results120, go_sem, r0, r1, r2, r3]) rfl ⟨_, _, _, _, _, _, _, _, by rw [HX.out]; exact ret_ai (by rfl), HD.out.1, ?_⟩
     intro p hp
     rw [HX.out] at hp
     cases hp
    | false =>
     have HNI : Hid (Q.data.toList ∉ ak) := hid (of_decide_eq_false hin)
     have HINB := hid (HIN.out false hin)
     clear hin HIN
     go_wp2_with fail
     refine (HKEY.out _).mono ?_
     rintro e w1 ⟨rfl, hb1⟩
     have HWR : Hid (OUT < w1.heap.size ∧ (∀ b, sk.ownBlock = some b → b < w1.heap.size) ∧ ∀ b, su.ownBlock = some b → b < w1.heap.size) := hid ⟨Nat.lt_of_lt_of_le HR.out.lt hb1.size, fun b hb => Nat.lt_of_lt_of_le (HR.out.2.2.2.1.lt b hb).2 hb1.size, fun b hb => Nat.lt_of_lt_of_le (HR.out.2.2.2.2.choose_spec.1.lt b hb).2 hb1.size⟩
     replace HR := hid (HR.out.go HG.out hb1)
     clear hb1
     obtain ⟨z0, z1, z2, z3⟩ := HR.out.2.2.1.cells
     go_wp2_with fail
     refine (HINB.out _ (rd_of_owns HR.out.2.2.2.1)).mono ?_
     rintro e w' ⟨rfl, rfl⟩
     clear z0 z1 z2 z3
     go_wp2_with fail
     refine (HV.out _).mono ?_
     rintro e w2 ⟨v_k, v_s, v_a, v_n, v_c, v_A, v_m, v_q, rfl, hb, hnd⟩
     have hbv : Below w1.heap.size w1 (w2.alloc (.cells #[.int .i64 v_k, .string v_s, .slice v_a v_n v_c, .slice v_A v_m v_q] 26)) := hb.trans ((Below.refl _ _).alloc hb.size _)
     have HR2 := hid (HR.out.go HG.out hbv)
     have HBV := hid (Row4.make w2 26 (.int .i64 v_k) (.string v_s) (.slice v_a v_n v_c) (.slice v_A v_m v_q))
     have HND : Hid (∀ p, valP (s.data.toList.drop a) = some p → NdC (fun b => w1.heap.size ≤ b ∧ b < w2.heap.size) (w2.alloc (.cells #[.int .i64 v_k, .string v_s, .slice v_a v_n v_c, .slice v_A v_m v_q] 26)) p.1 (.int .i64 v_k) (.string v_s) (.slice v_a v_n v_c) (.slice v_A v_m v_q)) := hid fun p hp => NdC.keep (fun b hb => ⟨hb, ((Below.refl w2.heap.size w2).alloc (Nat.le_refl _) (.cells #[.int .i64 v_k, .string v_s, .slice v_a v_n v_c, .slice v_A v_m v_q] 26)).block b hb.2⟩) _ (hnd p hp)
     have HGV : Hid (w1.heap.size ≤ w2.heap.size ∧ w2.heap.size < (w2.alloc (.cells #[.int .i64 v_k, .string v_s, .slice v_a v_n v_c, .slice v_A v_m v_q] 26)).heap.size) := hid ⟨hb.size, by simp⟩
     clear hb hnd hbv HV
     replace HR := HR2
     clear HR2
     go_upto_region 9 with fail
     generalize w2.alloc (.cells #[.int .i64 v_k, .string v_s, .slice v_a v_n v_c, .slice v_A v_m v_q] 26) = W2 at *
     generalize w2.heap.size = gv at *
     rcases hv : valP (s.data.toList.drop a) with _ | ⟨d, m⟩
     ·have HX : Hid (R = none) := hid (by
       have := HRA.out
       rw [prsA_noval HJB.out HKY.out HA.out hv] at this
       cases R with
       | none => rfl
       | some p => cases this)
      rw [show valN a none = -1 from rfl]
      clear hv HND HRA
      obtain ⟨z0, z1, z2, z3⟩ := HR.out.2.2.1.cells
      obtain ⟨r0, r1, r2, r3⟩ := HR.out.2.1.2.cells
      obtain ⟨fr0, fr1, fr2, fr3⟩ := HR.out.2.1.2.frozen
      obtain ⟨hK, hck, rfl⟩ := own_shape HR.out.2.2.2.1
      obtain ⟨hA, hcq, rfl⟩ := own_shape HR.out.2.2.2.2.choose_spec.1
      have HD := hid (out_ret HR.out HR.out.2.1.1 HL.out)
      obtain ⟨lk9, hlk9⟩ : ∃ lk, ak.length = lk := ⟨_, rfl⟩
      rw [hlk9] at HR HD z2
      clear hlk9
      obtain ⟨ln9, hln9⟩ : ∃ ln, ad.length = ln := ⟨_, rfl⟩
      rw [hln9] at HR HD z3
      clear hln9
      go_wp2
      refine bodyPost_ret (v := .tuple #[.agg #[.int .i64 3, .string ⟨#[]⟩, .slice hK lk9 hck, .slice hA ln9 hcq], .int .i64 (-1)]) (by simp [results, Tryz.results120, go_sem, r0, r1, r2, r3]) rfl ⟨_, _, _, _, _, _, _, _, by rw [HX.out]; exact ret_ai (by rfl), HD.out.1, ?_⟩
      intro p hp
      rw [HX.out] at hp
      cases hp
     ·rw [show valN a (some (d, m)) = ((a + m : Nat) : Int) from rfl]
      have hmn : a + m ≤ n := by
       have := (val_got hv).1
       rw [List.length_drop, HLEN.out] at this
       omega
      have HAM : Hid (a + (a + m - a) = a + m) := hid (by omega)
      obtain ⟨j2, hj2⟩ : ∃ j2, a + m + blk (s.data.toList.drop (a + m)) = j2 := ⟨_, rfl⟩
      have hj2n : j2 ≤ n := by
       have := blk_le (s.data.toList.drop (a + m))
       rw [List.length_drop, HLEN.out] at this
       omega
      have HEQ := hid (prsA_eq (ak := ak) (ad := ad) HJB.out HKY.out HNI.out HA.out hv hj2)
      have HV2 := hid (HND.out (d, m) hv)
      obtain ⟨am, ham⟩ : ∃ am, a + m = am := ⟨_, rfl⟩
      rw [ham] at hj2 hmn
      rw [ham]
      have HJ2 := hid hj2
      have hjlt : j < j2 := by omega
      have hngm : ¬ (am : Int) < 0 := by omega
      clear hv HND hj2 HAM HA HKY HNI ham
      obtain ⟨z0, z1, z2, z3⟩ := HR.out.2.2.1.cells
      obtain ⟨f0, f1, f2, f3⟩ := HR.out.2.2.1.frozen
      obtain ⟨lk, hlk⟩ : ∃ lk, ak.length = lk := ⟨_, rfl⟩
      obtain ⟨ln, hln⟩ : ∃ ln, ad.length = ln := ⟨_, rfl⟩
      obtain ⟨XK, hXK⟩ : ∃ XK, ak.map encStr = XK := ⟨_, rfl⟩
      have HLN := hid hln
      have HLK1 : Hid ((ak ++ [Q.data.toList]).length = lk + 1) := hid (by rw [List.length_append, hlk]; rfl)
      have HXK1 : Hid ((ak ++ [Q.data.toList]).map encStr = XK ++ [.string Q]) := hid (by
       rw [List.map_append, hXK]
       show XK ++ [Value.string (ba Q.data.toList)] = _
       rw [ba_of])
      have hownK := HR.out.2.2.2.1
      rw [hlk, hXK] at hownK
      have HOK := hid hownK
      rw [hln] at hacc
      rw [hlk] at hacck
      have hOlt := HR.out.lt
      have n7O : sk.ownBlock ≠ some OUT := fun e => by have := (hownK.lt _ e).1; omega
      clear hownK hlk hln hXK
      go_upto_region 12 with (at_builtin; refine wpList_append_own_at _ rfl _ _ 23 rfl (OUT + 1) 9 i0t _ 1 16 Tryz.underlying23 hi0 hz0 hz1 hz2 rfl (by decide) sk lk XK rfl (HOK.out.alloc _) _ 1 1 [.string Q] rfl rfl (news_blk #[.string Q] (alloc_at _ _)) (one_str Q) (by unfold maxLen; omega) (by omega) (by simp; omega) ?_; intro v' w3 hownS hgS hnilS hkS; obtain ⟨a7, q7, rfl⟩ := own_shape hownS; have hz3 : w3.cell? ⟨OUT, 2, none⟩ = some sk := cell_grown (cells_alloc z2) hgS n7O; have hf3 : w3.frozen? ⟨OUT, 2, none⟩ = false := frozen_grown (frozen_alloc f2 hOlt) hgS (by simp; omega) n7O)
      have hal : Below W2.heap.size W2 (W2.alloc (.cells #[.string Q] 9)) := (Below.refl _ _).alloc (Nat.le_refl _) _
      have hg9 : World.grownBy (W2.alloc (.cells #[.string Q] 9)) w3 sk.ownBlock := ⟨hgS.os, hgS.tape, hgS.output, hgS.size, hgS.block⟩
      have HR3 := hid (RZ.keys HG.out HR.out hal (l' := ak ++ [Q.data.toList]) (by rw [HLK1.out, HXK1.out]; exact hownS) hg9 hkS)
      have HFAR := hid (fun b h1 h2 => far_keys hal hg9 (.slice a7 (lk + 1) q7) HWR.out.1 HWR.out.2.1 (b := b) h1 h2 2)
      have HBV3 : Hid (Row4 (w3.setCell ⟨OUT, 2, none⟩ (.slice a7 (lk + 1) q7)) gv 26 (.int .i64 v_k) (.string v_s) (.slice v_a v_n v_c) (.slice v_A v_m v_q)) := hid ((HFAR.out gv HGV.out.1 HGV.out.2).trans HBV.out)
      have HV3 : Hid (NdC (fun b => w1.heap.size ≤ b ∧ b < gv) (w3.setCell ⟨OUT, 2, none⟩ (.slice a7 (lk + 1) q7)) d (.int .i64 v_k) (.string v_s) (.slice v_a v_n v_c) (.slice v_A v_m v_q)) := hid (NdC.keep (fun b hb => ⟨hb, HFAR.out b hb.1 (Nat.lt_trans hb.2 HGV.out.2)⟩) _ HV2.out)
      have HS7 : Hid (∀ g, (Value.slice a7 (lk + 1) q7).ownBlock = some g → g < w1.heap.size ∨ gv < g) := hid fun g hg => by
       rcases hkS with h | h
       ·exact .inl (HWR.out.2.1 g (h.symm.trans hg))
       ·rw [h] at hg
        injection hg with hg
        have := HGV.out.2
        simp at hg
        exact .inr (by omega)
      have HS3 : Hid (gv < (w3.setCell ⟨OUT, 2, none⟩ (.slice a7 (lk + 1) q7)).heap.size) := hid (by
       have h1 := HGV.out.2
       have h2 := hal.size
       have h3 := hg9.size
       have h4 : (w3.setCell ⟨OUT, 2, none⟩ (.slice a7 (lk + 1) q7)).heap.size = w3.heap.size := by simp
       omega)
      replace HR := HR3
      clear HR3 hg9 hkS hnilS hgS hownS hal HFAR HV2 HBV z0 z1 z2 z3 f0 f1 f2 f3 HOK n7O hOlt
      clear hz3 hf3
      generalize w3.setCell ⟨OUT, 2, none⟩ (.slice a7 (lk + 1) q7) = W3 at *
      obtain ⟨z0, z1, z2, z3⟩ := HR.out.2.2.1.cells
      obtain ⟨f0, f1, f2, f3⟩ := HR.out.2.2.1.frozen
      obtain ⟨b0, b1, b2, b3⟩ := HBV3.out.cells
      obtain ⟨qs, hko⟩ := HR.out.2.2.2.2
      have HQ := hid hko
      have HOWN := hid hko.1
      obtain ⟨X8, hX8⟩ : ∃ X8, flat4 qs = X8 := ⟨_, rfl⟩
      have HX8 := hid hX8
      rw [hX8, HLN.out] at HOWN
      have hOlt := HR.out.lt
      have n8O : su.ownBlock ≠ some OUT := fun e => by have := (hko.1.lt _ e).1; omega
      clear hko hX8
      go_upto_region 13 with (at_builtin; refine wpList_append_own_at _ rfl _ _ 24 rfl (OUT + 1) 26 j0t _ 4 72 Tryz.underlying24 hj0 hy0 hy1 hy2 rfl (by decide) su ln X8 rfl (HOWN.out.alloc _) _ 1 1 [.int .i64 v_k, .string v_s, .slice v_a v_n v_c, .slice v_A v_m v_q] rfl rfl (news_blk #[.int .i64 v_k, .string v_s, .slice v_a v_n v_c, .slice v_A v_m v_q] (alloc_at _ _)) (four_nd _ _ _ _ _ _ _ _) (by unfold maxLen; omega) (by omega) (by simp; omega) ?_; intro v'' w4 hownN hgN hnilN hkN; obtain ⟨a8, q8, rfl⟩ := own_shape hownN; have hz4 : w4.cell? ⟨OUT, 3, none⟩ = some su := cell_grown (cells_alloc z3) hgN n8O; have hf4 : w4.frozen? ⟨OUT, 3, none⟩ = false := frozen_grown (frozen_alloc f3 hOlt) hgN (by simp; omega) n8O)
      have hal : Below W3.heap.size W3 (W3.alloc (.cells #[.int .i64 v_k, .string v_s, .slice v_a v_n v_c, .slice v_A v_m v_q] 26)) := (Below.refl _ _).alloc (Nat.le_refl _) _
      have hg9 : World.grownBy (W3.alloc (.cells #[.int .i64 v_k, .string v_s, .slice v_a v_n v_c, .slice v_A v_m v_q] 26)) w4 su.ownBlock := ⟨hgN.os, hgN.tape, hgN.output, hgN.size, hgN.block⟩
      have HR3 := hid (RZ.kids2 (B := fun b => w1.heap.size ≤ b ∧ b < gv) (q := ⟨.int .i64 v_k, .string v_s, .slice v_a v_n v_c, .slice v_A v_m v_q⟩) (e := d) HG.out HR.out hal (by rw [HLN.out]) qs HQ.out (by rw [HX8.out]) hownN hg9 hkN (fun b hb => by
       have e1 := HWR.out.1
       have e2 := HS3.out
       obtain ⟨e3, e4⟩ := hb
       exact ⟨by omega, by omega, fun e => by have := HS7.out b e; omega, fun e => by have := HWR.out.2.2 b e; omega⟩) HV3.out)
      replace HR := HR3
      clear HR3 hz4 hf4 hownN hgN hg9 hkN hal hnilN HQ HOWN HX8 z0 z1 z2 z3 f0 f1 f2 f3 b0 b1 b2 b3 HV3 HBV3 HWR n8O hOlt HS7 HS3 HGV
      have HLN2 : Hid ((ad ++ [d]).length = ln + 1) := hid (by rw [List.length_append, HLN.out]; rfl)
      generalize w4.setCell ⟨OUT, 3, none⟩ (.slice a8 (ln + 1) q8) = W5 at *
      go_wp2_with fail
      refine (HBK.out am hmn j2 HJ2.out _).mono ?_
      rintro e w' ⟨rfl, rfl⟩
      have wj2 : IntKind.i64.wrap ((j2 : Int) + 1) = (j2 : Int) + 1 := IntWalk.i64_in _ (by omega)
      cases h93 : isC 125 ((s.data.toList.drop j2).headD 0) with
      | true =>
       have HI := hid h93
       have HX : Hid (∃ p, R = some (.mk 3 [] (ak ++ [Q.data.toList]) (ad ++ [d]), p) ∧ k + p = j2 + 1) := hid (by
        have h1 := HEQ.out
        rw [HRA.out, if_pos (isC_iff.1 h93)] at h1
        obtain ⟨p, h2, h3⟩ := bump_some h1
        exact ⟨p, h2, h3.symm⟩)
       obtain ⟨p9, hp9, hp8⟩ := HX.out
       replace HX := hid hp9
       have HP8 := hid hp8
       clear h93 hp9 hp8 HRA HEQ
       go_wp2_with fail
       refine (HIS.out 125 (by decide) j2 true HI.out _).mono ?_
       rintro e w' ⟨rfl, rfl⟩
       obtain ⟨z0, z1, z2, z3⟩ := HR.out.2.2.1.cells
       obtain ⟨r0, r1, r2, r3⟩ := HR.out.2.1.2.cells
       obtain ⟨fr0, fr1, fr2, fr3⟩ := HR.out.2.1.2.frozen
       have HD := hid (out_ret HR.out HR.out.2.1.1 HL.out)
       go_wp2
       refine bodyPost_ret (v := .tuple #[.agg #[.int .i64 3, .string ⟨#[]⟩, .slice a7 (lk + 1) q7, .slice a8 (ln + 1) q8], .int .i64 ((j2 : Int) + 1)]) (by simp [results, Tryz.results120, go_sem, r0, r1, r2, r3]) rfl ⟨_, _, _, _, _, _, _, _, by rw [HX.out]; exact ret_ai (by have := HP8.out; show (j2 : Int) + 1 = ((k + p9 : Nat) : Int); omega), HD.out.1, ?_⟩
       intro p hp
       rw [HX.out] at hp
       injection hp with hp
       subst hp
       exact HD.out.2
      | false =>
       have HI := hid h93
       cases h44 : isC 44 ((s.data.toList.drop j2).headD 0) with
       | false =>
        have HI2 := hid h44
        have HX : Hid (R = none) := hid (by
         have h1 := HEQ.out
         rw [HRA.out, if_neg (fun e => by rw [isC_iff.2 e] at h93; cases h93), if_neg (fun e => by rw [isC_iff.2 e] at h44; cases h44)] at h1
         cases R with
         | none => rfl
         | some p => cases h1)
        clear h93 h44 HRA HEQ
        go_wp2_with fail
        refine (HIS.out 125 (by decide) j2 false HI.out _).mono ?_
        rintro e w' ⟨rfl, rfl⟩
        go_wp2_with fail
        refine (HIS.out 44 (by decide) j2 false HI2.out _).mono ?_
        rintro e w' ⟨rfl, rfl⟩
        obtain ⟨z0, z1, z2, z3⟩ := HR.out.2.2.1.cells
        obtain ⟨r0, r1, r2, r3⟩ := HR.out.2.1.2.cells
        obtain ⟨fr0, fr1, fr2, fr3⟩ := HR.out.2.1.2.frozen
        have HD := hid (out_ret HR.out HR.out.2.1.1 HL.out)
        go_wp2
        refine bodyPost_ret (v := .tuple #[.agg #[.int .i64 3, .string ⟨#[]⟩, .slice a7 (lk + 1) q7, .slice a8 (ln + 1) q8], .int .i64 (-1)]) (by simp [results, Tryz.results120, go_sem, r0, r1, r2, r3]) rfl ⟨_, _, _, _, _, _, _, _, by rw [HX.out]; exact ret_ai (by rfl), HD.out.1, ?_⟩
        intro p hp
        rw [HX.out] at hp
        cases hp
       | true =>
        have HI2 := hid h44
        have hj2lt : j2 < n := by
         rcases Nat.lt_or_ge j2 n with h | h
         ·exact h
         ·rw [List.drop_of_length_le (by rw [HLEN.out]; exact h)] at h44
          exact absurd h44 (by decide)
        have HRA2 : Hid (prsA s.data.toList (j2 + 1) (ak ++ [Q.data.toList]) (ad ++ [d]) = R.map (bump k)) := hid (by
         have h1 := HEQ.out
         rw [HRA.out, if_neg (fun e => by rw [isC_iff.2 e] at h93; cases h93), if_pos (isC_iff.1 h44)] at h1
         exact h1.symm)
        clear h93 h44 HRA HEQ
        go_wp2_with fail
        refine (HIS.out 125 (by decide) j2 false HI.out _).mono ?_
        rintro e w' ⟨rfl, rfl⟩
        go_wp2_with fail
        refine (HIS.out 44 (by decide) j2 true HI2.out _).mono ?_
        rintro e w' ⟨rfl, rfl⟩
        go_wp2
        go_roundw
        case measure => simp [intOf]; omega
        case rel => exact ⟨j2 + 1, _, _, ak ++ [Q.data.toList], ad ++ [d], by omega, by rw [HLN2.out]; omega, by rw [HLK1.out]; omega, by go_num, hid (by have := HKJ.out; omega), HR, HRA2⟩
end
end Go.Proofs.YtecglpocmhkkiaaGreatDoor
namespace Go.Proofs.YtecglpocmhkkiaaGreatDoor
open Go.RowKit Go.Sort
open Nw N8 Q6 F9 Go.ChangeShapes Go.WideShapes
namespace F9
theorem pre_head {a l : L8} (h : a <+: l) (hq : isQ (l.headD 0) = false) : isQ (a.headD 0) = false := by
 obtain ⟨r, rfl⟩ := h
 cases a with
 | nil => decide
 | cons c a => exact hq
theorem trm_pre (l : L8) : trm l <+: l := by
 unfold trm Lib.trimRightB
 have h := List.dropWhile_suffix (l := l.reverse) (· == (32 : UInt8))
 have h2 := List.reverse_prefix.2 h
 rw [List.reverse_reverse] at h2
 exact h2
theorem valN_bump (k : Nat) (R : Option (Nd × Nat)) : valN (k + 1) R = valN k (R.map (bump 1)) := by
 cases R with
 | none => rfl
 | some p => show ((k + 1 + p.2 : Nat) : Int) = ((k + (1 + p.2) : Nat) : Int); congr 1; omega
end F9
theorem got_ret {w W0 w1 : World} {k0 : Nat} {R : Option (Nd × Nat)} {kk : Int} {t : ByteArray} {a : Option Addr} {nn c : Nat} {A : Option Addr} {m q : Nat} (hsz : W0.heap.size = w.heap.size + 1) (hb0 : Below w.heap.size w W0) (hb : Below W0.heap.size W0 w1)
  (hd : ∀ p, R = some p → NdC (fun b => W0.heap.size ≤ b ∧ b < w1.heap.size) w1 p.1 (.int .i64 kk) (.string t) (.slice a nn c) (.slice A m q)) {x : Int} (hx : x = valN k0 R) :
  GotV k0 R w (.returned (.tuple #[.agg #[.int .i64 kk, .string t, .slice a nn c, .slice A m q], .int .i64 x])) (p4 w1 w.heap.size (.int .i64 kk) (.string t) (.slice a nn c) (.slice A m q)) := by
 subst hx
 refine ⟨_, _, _, _, _, _, _, _, rfl, below_p4 (hb0.trans (hb.mono (by omega))) (Nat.le_refl _) _ _ _ _, fun p hp => ?_⟩
 exact NdC.keep (fun b hb => ⟨⟨by omega, by rw [p4_size]; exact hb.2⟩, p4_oth b (by omega) _ _ _ _⟩) _ (hd p hp)
theorem Rvalue_any (s : ByteArray) (n : Nat) (hn : s.size = n) (hs : n ≤ 100000) (M : Nat) (ihR : ROf s n M) (ihP : POf s n M) : VOf s n M := by
 intro k hk k0 hk0 hM w
 have hlen : s.data.toList.length = n := (len_eq s).trans hn
 have hk0n : k0 ≤ n := by
  have := blk_le (s.data.toList.drop k)
  rw [List.length_drop, hlen] at this
  omega
 have HBK := hid (fun W => Rblanks_any s k W n hn (by omega) hk k0 hk0)
 obtain ⟨R, hR⟩ : ∃ R, valP (s.data.toList.drop k0) = R := ⟨_, rfl⟩
 rw [hR]
 generalize hW0 : w.alloc (.cells #[.int .i64 0, .string ⟨#[]⟩, .slice none 0 0, .slice none 0 0] 26) = W0 at *
 have hsz : W0.heap.size = w.heap.size + 1 := by rw [← hW0]; simp
 have hb0 : Below w.heap.size w W0 := by rw [← hW0]; exact (Below.refl _ _).alloc (Nat.le_refl _) _
 have hr0 : Row4 W0 w.heap.size 26 (.int .i64 0) (.string ⟨#[]⟩) (.slice none 0 0) (.slice none 0 0) := by rw [← hW0]; exact Row4.make w _ _ _ _ _
 have HS := hid (And.intro hsz (And.intro hb0 hr0))
 clear hsz hb0 hr0 hk0
 by_cases hlt : k0 < n
 ·have hks : k0 < s.size := by omega
  have hkz : ((k0 : Int) == (n : Int)) = false := beq_eq_false_iff_ne.2 (by omega)
  have hkz2 : (k0 : Int) < (n : Int) := by omega
  obtain ⟨c, hc⟩ : ∃ c, s[k0]'hks = c := ⟨_, rfl⟩
  obtain ⟨T, hT⟩ : ∃ T, s.data.toList.drop (k0 + 1) = T := ⟨_, rfl⟩
  have hdr := drop_cons (l := s.data.toList) (k := k0) (by rw [hlen]; exact hlt)
  rw [getd s k0 hks, hc, hT] at hdr
  have wk : IntKind.i64.wrap ((k0 : Int) + 1) = (k0 : Int) + 1 := IntWalk.i64_in _ (by omega)
  rw [hdr] at hR
  cases h91 : isC 91 c with
  | true =>
   have m91 := (isC_beq 91 c 91 rfl).trans h91
   have HX : Hid (R = (rowR T).map (bump 1)) := hid (by rw [← hR, isC_iff.1 h91, val_row])
   have HC : Hid (Calls Tryz.prog 119 #[.string s, .int .i64 ((k0 : Int) + 1)] W0 (GotV (k0 + 1) (rowR T) W0)) := hid (by
    have := ihR (k0 + 1) (by omega) (by omega) W0
    rw [hT, show ((k0 + 1 : Nat) : Int) = (k0 : Int) + 1 from rfl] at this
    exact this)
   clear h91 hR hdr hT ihR ihP hM hlen
   go_enter Tryz.func99, Tryz.ntmps99
   go_wp2_with fail
   refine (HBK.out _).mono ?_
   rintro e w' ⟨rfl, rfl⟩
   go_wp2_with fail
   refine HC.out.mono ?_
   rintro e w1 ⟨v_k, v_s, v_a, v_n, v_c, v_A, v_m, v_q, rfl, hb, hnd⟩
   have HB := hid hb
   have HND := hid hnd
   clear hb hnd hW0 HC
   obtain ⟨y, hy⟩ : ∃ y, valN (k0 + 1) (rowR T) = y := ⟨_, rfl⟩
   have HY : Hid (y = valN k0 R) := hid (by rw [← hy, HX.out]; exact valN_bump _ _)
   rw [hy]
   clear hy
   have HD := hid (got_ret (k0 := k0) (R := R) (kk := v_k) (t := v_s) (a := v_a) (nn := v_n) (c := v_c) (A := v_A) (m := v_m) (q := v_q) HS.out.1 HS.out.2.1 HB.out (fun p hp => by
    rw [HX.out] at hp
    obtain ⟨x, hx, -⟩ := bump_some (d := p.1) (m := p.2) hp
    exact HND.out (p.1, x) hx) (HY.out))
   obtain ⟨r0, r1, r2, r3⟩ := (HS.out.2.2.below HB.out (by have := HS.out.1; omega)).cells
   obtain ⟨fr0, fr1, fr2, fr3⟩ := (HS.out.2.2.below HB.out (by have := HS.out.1; omega)).frozen
   go_wp2
   refine bodyPost_ret (v := .tuple #[.agg #[.int .i64 v_k, .string v_s, .slice v_a v_n v_c, .slice v_A v_m v_q], .int .i64 y]) (by simp [results, Tryz.results99, go_sem, r0, r1, r2, r3]) rfl HD.out
  | false =>
  cases h123 : isC 123 c with
  | true =>
   have m91 := (isC_beq 91 c 91 rfl).trans h91
   have m123 := (isC_beq 123 c 123 rfl).trans h123
   have HX : Hid (R = (prsR T).map (bump 1)) := hid (by rw [← hR, isC_iff.1 h123, val_prs])
   have HC : Hid (Calls Tryz.prog 120 #[.string s, .int .i64 ((k0 : Int) + 1)] W0 (GotV (k0 + 1) (prsR T) W0)) := hid (by
    have := ihP (k0 + 1) (by omega) (by omega) W0
    rw [hT, show ((k0 + 1 : Nat) : Int) = (k0 : Int) + 1 from rfl] at this
    exact this)
   clear h91 h123 hR hdr hT ihR ihP hM hlen
   go_enter Tryz.func99, Tryz.ntmps99
   go_wp2_with fail
   refine (HBK.out _).mono ?_
   rintro e w' ⟨rfl, rfl⟩
   go_wp2_with fail
   refine HC.out.mono ?_
   rintro e w1 ⟨v_k, v_s, v_a, v_n, v_c, v_A, v_m, v_q, rfl, hb, hnd⟩
   have HB := hid hb
   have HND := hid hnd
   clear hb hnd hW0 HC
   obtain ⟨y, hy⟩ : ∃ y, valN (k0 + 1) (prsR T) = y := ⟨_, rfl⟩
   have HY : Hid (y = valN k0 R) := hid (by rw [← hy, HX.out]; exact valN_bump _ _)
   rw [hy]
   clear hy
   have HD := hid (got_ret (k0 := k0) (R := R) (kk := v_k) (t := v_s) (a := v_a) (nn := v_n) (c := v_c) (A := v_A) (m := v_m) (q := v_q) HS.out.1 HS.out.2.1 HB.out (fun p hp => by
    rw [HX.out] at hp
    obtain ⟨x, hx, -⟩ := bump_some (d := p.1) (m := p.2) hp
    exact HND.out (p.1, x) hx) (HY.out))
   obtain ⟨r0, r1, r2, r3⟩ := (HS.out.2.2.below HB.out (by have := HS.out.1; omega)).cells
   obtain ⟨fr0, fr1, fr2, fr3⟩ := (HS.out.2.2.below HB.out (by have := HS.out.1; omega)).frozen
   go_wp2
   refine bodyPost_ret (v := .tuple #[.agg #[.int .i64 v_k, .string v_s, .slice v_a v_n v_c, .slice v_A v_m v_q], .int .i64 y]) (by simp [results, Tryz.results99, go_sem, r0, r1, r2, r3]) rfl HD.out
  | false =>
   have m91 := (isC_beq 91 c 91 rfl).trans h91
   have m123 := (isC_beq 123 c 123 rfl).trans h123
   have n91 : c ≠ 91 := fun e => by rw [isC_iff.2 e] at h91; cases h91
   have n123 : c ≠ 123 := fun e => by rw [isC_iff.2 e] at h123; cases h123
   have hhead : (s.data.toList.drop k0).headD 0 = c := by rw [hdr]; rfl
   clear h91 h123 ihR ihP hM hT
   cases hQ : isQ c with
   | true =>
    rw [val_quoted n91 n123 hQ] at hR
    obtain ⟨v1, v3, v2⟩ := scan_k (l := s.data.toList) (k := k0) (by omega) (by rw [hhead]; exact hQ)
    rw [hdr] at v1 v2 v3
    have HIQ : Hid (isC 34 c = true ∨ (isC 34 c = false ∧ isC 39 c = true)) := hid (by
     unfold isQ at hQ
     cases h : isC 34 c with
     | true => exact .inl rfl
     | false =>
      rw [show decide (c = 34) = false from h] at hQ
      exact .inr ⟨rfl, hQ⟩)
    cases hsc : scnP (c :: T) with
    | none =>
     rw [hsc] at hR v1 v3
     have HX : Hid (R = none) := hid hR.symm
     have HSC := hid (fun W => RScan_any s (k0 : Int) W (by omega) (by omega) (by omega) ⟨#[]⟩ _ 3 (by rw [v1]; rfl) rfl (by rw [v3]; rfl))
     clear hQ hR hdr hhead v1 v2 v3 hsc hlen n91 n123
     rcases HIQ.out with a1 | ⟨a1, a2⟩
     ·have m34 := (isC_beq 34 c 34 rfl).trans a1
      clear a1
      go_enter Tryz.func99, Tryz.ntmps99
      go_wp2_with fail
      refine (HBK.out _).mono ?_
      rintro e w' ⟨rfl, rfl⟩
      go_wp2_with fail
      refine (HSC.out _).mono ?_
      rintro e w1 ⟨rfl, hb⟩
      have HB := hid hb
      clear hb hW0 HSC
      have HD := hid (got_ret (k0 := k0) (R := R) (kk := 0) (t := ⟨#[]⟩) (a := none) (nn := 0) (c := 0) (A := none) (m := 0) (q := 0) HS.out.1 HS.out.2.1 HB.out (fun p hp => by rw [HX.out] at hp; cases hp) (by rw [HX.out]))
      obtain ⟨r0, r1, r2, r3⟩ := (HS.out.2.2.below HB.out (by have := HS.out.1; omega)).cells
      obtain ⟨fr0, fr1, fr2, fr3⟩ := (HS.out.2.2.below HB.out (by have := HS.out.1; omega)).frozen
      go_wp2
      refine bodyPost_ret (v := .tuple #[.agg #[.int .i64 0, .string ⟨#[]⟩, .slice none 0 0, .slice none 0 0], .int .i64 (-1)]) (by simp [results, Tryz.results99, go_sem, r0, r1, r2, r3]) rfl HD.out
     ·have m34 := (isC_beq 34 c 34 rfl).trans a1
      have m39 := (isC_beq 39 c 39 rfl).trans a2
      clear a1 a2
      go_enter Tryz.func99, Tryz.ntmps99
      go_wp2_with fail
      refine (HBK.out _).mono ?_
      rintro e w' ⟨rfl, rfl⟩
      go_wp2_with fail
      refine (HSC.out _).mono ?_
      rintro e w1 ⟨rfl, hb⟩
      have HB := hid hb
      clear hb hW0 HSC
      have HD := hid (got_ret (k0 := k0) (R := R) (kk := 0) (t := ⟨#[]⟩) (a := none) (nn := 0) (c := 0) (A := none) (m := 0) (q := 0) HS.out.1 HS.out.2.1 HB.out (fun p hp => by rw [HX.out] at hp; cases hp) (by rw [HX.out]))
      obtain ⟨r0, r1, r2, r3⟩ := (HS.out.2.2.below HB.out (by have := HS.out.1; omega)).cells
      obtain ⟨fr0, fr1, fr2, fr3⟩ := (HS.out.2.2.below HB.out (by have := HS.out.1; omega)).frozen
      go_wp2
      refine bodyPost_ret (v := .tuple #[.agg #[.int .i64 0, .string ⟨#[]⟩, .slice none 0 0, .slice none 0 0], .int .i64 (-1)]) (by simp [results, Tryz.results99, go_sem, r0, r1, r2, r3]) rfl HD.out
    | some p =>
     obtain ⟨t, j⟩ := p
     rw [hsc] at hR v1 v3
     have v2 := v2 t j hsc
     obtain ⟨Q, hQQ⟩ : ∃ Q, ba t = Q := ⟨_, rfl⟩
     have hQl : Q.data.toList = t := by rw [← hQQ, ba_data]
     have HX : Hid (R = some (txt Q.data.toList, j)) := hid (by rw [← hR, hQl]; rfl)
     have HSC := hid (fun W => RScan_any s (k0 : Int) W (by omega) (by omega) (by omega) Q ((k0 + j : Nat) : Int) 0 (by rw [v1, hQl]; rfl) v2 (by rw [v3]; rfl))
     obtain ⟨y, hy⟩ : ∃ y : Int, ((k0 + j : Nat) : Int) = y := ⟨_, rfl⟩
     have HY : Hid (y = valN k0 R) := hid (by rw [HX.out]; exact hy.symm)
     rw [hy] at HSC
     clear hQ hR hdr hhead v1 v2 v3 hsc hlen n91 n123 hQQ hQl hy
     rcases HIQ.out with a1 | ⟨a1, a2⟩
     ·have m34 := (isC_beq 34 c 34 rfl).trans a1
      clear a1
      go_enter Tryz.func99, Tryz.ntmps99
      go_wp2_with fail
      refine (HBK.out _).mono ?_
      rintro e w' ⟨rfl, rfl⟩
      go_wp2_with fail
      refine (HSC.out _).mono ?_
      rintro e w1 ⟨rfl, hb⟩
      have HB := hid hb
      clear hb hW0 HSC
      have HD := hid (got_ret (k0 := k0) (R := R) (kk := 1) (t := Q) (a := none) (nn := 0) (c := 0) (A := none) (m := 0) (q := 0) HS.out.1 HS.out.2.1 HB.out (fun p hp => by rw [HX.out] at hp; injection hp with hp; subst hp; exact nd_txt _ _ Q) (HY.out))
      obtain ⟨r0, r1, r2, r3⟩ := (HS.out.2.2.below HB.out (by have := HS.out.1; omega)).cells
      obtain ⟨fr0, fr1, fr2, fr3⟩ := (HS.out.2.2.below HB.out (by have := HS.out.1; omega)).frozen
      go_wp2
      refine bodyPost_ret (v := .tuple #[.agg #[.int .i64 1, .string Q, .slice none 0 0, .slice none 0 0], .int .i64 y]) (by simp [results, Tryz.results99, go_sem, r0, r1, r2, r3]) rfl HD.out
     ·have m34 := (isC_beq 34 c 34 rfl).trans a1
      have m39 := (isC_beq 39 c 39 rfl).trans a2
      clear a1 a2
      go_enter Tryz.func99, Tryz.ntmps99
      go_wp2_with fail
      refine (HBK.out _).mono ?_
      rintro e w' ⟨rfl, rfl⟩
      go_wp2_with fail
      refine (HSC.out _).mono ?_
      rintro e w1 ⟨rfl, hb⟩
      have HB := hid hb
      clear hb hW0 HSC
      have HD := hid (got_ret (k0 := k0) (R := R) (kk := 1) (t := Q) (a := none) (nn := 0) (c := 0) (A := none) (m := 0) (q := 0) HS.out.1 HS.out.2.1 HB.out (fun p hp => by rw [HX.out] at hp; injection hp with hp; subst hp; exact nd_txt _ _ Q) (HY.out))
      obtain ⟨r0, r1, r2, r3⟩ := (HS.out.2.2.below HB.out (by have := HS.out.1; omega)).cells
      obtain ⟨fr0, fr1, fr2, fr3⟩ := (HS.out.2.2.below HB.out (by have := HS.out.1; omega)).frozen
      go_wp2
      refine bodyPost_ret (v := .tuple #[.agg #[.int .i64 1, .string Q, .slice none 0 0, .slice none 0 0], .int .i64 y]) (by simp [results, Tryz.results99, go_sem, r0, r1, r2, r3]) rfl HD.out
   | false =>
    rw [val_plain n91 n123 hQ] at hR
    have h34 : isC 34 c = false ∧ isC 39 c = false := by
     unfold isQ at hQ
     rw [Bool.or_eq_false_iff] at hQ
     exact hQ
    have m34 := (isC_beq 34 c 34 rfl).trans h34.1
    have m39 := (isC_beq 39 c 39 rfl).trans h34.2
    obtain ⟨e, he⟩ : ∃ e, k0 + pln (s.data.toList.drop k0) = e := ⟨_, rfl⟩
    have HPL := hid (fun W => Rplain9_any s k0 W n hn (by omega) hk0n e he)
    have hem : e = k0 + pln (c :: T) := by rw [← he, hdr]
    have hpn := pln_le (s.data.toList.drop k0)
    rw [List.length_drop, hlen] at hpn
    have hen : e ≤ n := by omega
    obtain ⟨t, ht⟩ : ∃ t, s.extract k0 e = t := ⟨_, rfl⟩
    have htl : t.data.toList = (c :: T).take (pln (c :: T)) := by rw [← ht, Lib.extract_data, hdr, hem, Nat.add_sub_cancel_left]
    have hts : t.size ≤ 100000 := by
     have h1 : (c :: T).length = n - k0 := by rw [← hdr, List.length_drop, hlen]
     rw [← len_eq, htl, List.length_take]
     omega
    obtain ⟨y, hy⟩ : ∃ y, ba (trm t.data.toList) = y := ⟨_, rfl⟩
    have hyl : y.data.toList = trm t.data.toList := by rw [← hy, ba_data]
    have hys : y.size ≤ 100000 := by
     have := trm_le t.data.toList
     rw [← len_eq, hyl]
     rw [len_eq] at this
     omega
    have HTR := hid (fun W => Rtrimmed_any t W (by omega) y hyl.symm)
    have hyq : isQ (y.data.toList.headD 0) = false := by
     rw [hyl, htl]
     exact pre_head ((trm_pre _).trans (List.take_prefix _ _)) hQ
    rw [← htl, ← hyl, ← scl_row hyq] at hR
    obtain ⟨P, hP⟩ : ∃ P, sclS true y.data.toList = P := ⟨_, rfl⟩
    have hnd := fun S W => nd_scl (row := true) (l := y.data.toList) S W
    rw [hP] at hR hnd
    have hscl := fun W => RScalar_any y true W hys P hP
    obtain ⟨kS, hkS⟩ : ∃ kS, scK P = kS := ⟨_, rfl⟩
    obtain ⟨tS, htS⟩ : ∃ tS, scT P = tS := ⟨_, rfl⟩
    rw [hkS, htS] at hscl hnd
    have HNS := hid hnd
    have le1 : (k0 : Int) ≤ (e : Int) := by omega
    have le2 : (e : Int) ≤ (n : Int) := by omega
    have hpe : k0 + pln (c :: T) = e := hem.symm
    clear hnd hQ h34 he hem hpn htl hy hyl hyq hhead hdr hlen hkS htS hts hys n91 n123
    cases P with
    | none =>
     have HX : Hid (R = none) := hid hR.symm
     have HSC : Hid (∀ W, Calls Tryz.prog 69 #[.string y, .bool true] W fun e w' => e = .returned (.tuple #[.agg #[.int .i64 kS, .string tS, .slice none 0 0, .slice none 0 0], .bool false]) ∧ Below W.heap.size W w') := hid hscl
     clear hscl hR hP hpe
     go_enter Tryz.func99, Tryz.ntmps99
     go_wp2_with fail
     refine (HBK.out _).mono ?_
     rintro e w' ⟨rfl, rfl⟩
     go_wp2_with fail
     refine (HPL.out _).mono ?_
     rintro e w' ⟨rfl, rfl⟩
     go_wp2_with fail
     refine (HTR.out _).mono ?_
     rintro e w' ⟨rfl, rfl⟩
     go_wp2_with fail
     refine (HSC.out _).mono ?_
     rintro e w1 ⟨rfl, hb⟩
     have HB : Hid (Below W0.heap.size W0 (w1.alloc (.cells #[.int .i64 kS, .string tS, .slice none 0 0, .slice none 0 0] 26))) := hid (hb.trans ((Below.refl _ _).alloc hb.size _))
     have HBV := hid (Row4.make w1 26 (.int .i64 kS) (.string tS) (.slice none 0 0) (.slice none 0 0))
     clear hb hW0 HSC
     go_upto_region 15 with fail
     generalize w1.alloc (.cells #[.int .i64 kS, .string tS, .slice none 0 0, .slice none 0 0] 26) = W2 at *
     generalize w1.heap.size = gv at *
     obtain ⟨b0, b1, b2, b3⟩ := HBV.out.cells
     have HD := hid (got_ret (k0 := k0) (R := R) (kk := 0) (t := ⟨#[]⟩) (a := none) (nn := 0) (c := 0) (A := none) (m := 0) (q := 0) HS.out.1 HS.out.2.1 HB.out (fun p hp => by rw [HX.out] at hp; cases hp) (by rw [HX.out]))
     obtain ⟨r0, r1, r2, r3⟩ := (HS.out.2.2.below HB.out (by have := HS.out.1; omega)).cells
     obtain ⟨fr0, fr1, fr2, fr3⟩ := (HS.out.2.2.below HB.out (by have := HS.out.1; omega)).frozen
     go_wp2
     refine bodyPost_ret (v := .tuple #[.agg #[.int .i64 0, .string ⟨#[]⟩, .slice none 0 0, .slice none 0 0], .int .i64 (-1)]) (by simp [results, Tryz.results99, go_sem, r0, r1, r2, r3]) rfl HD.out
    | some d =>
     have HX : Hid (R = some (d, pln (c :: T))) := hid hR.symm
     have HY : Hid ((e : Int) = valN k0 R) := hid (by rw [HX.out]; show (e : Int) = ((k0 + pln (c :: T) : Nat) : Int); rw [hpe])
     have HSC : Hid (∀ W, Calls Tryz.prog 69 #[.string y, .bool true] W fun e w' => e = .returned (.tuple #[.agg #[.int .i64 kS, .string tS, .slice none 0 0, .slice none 0 0], .bool true]) ∧ Below W.heap.size W w') := hid hscl
     clear hscl hR hP hpe
     go_enter Tryz.func99, Tryz.ntmps99
     go_wp2_with fail
     refine (HBK.out _).mono ?_
     rintro e w' ⟨rfl, rfl⟩
     go_wp2_with fail
     refine (HPL.out _).mono ?_
     rintro e w' ⟨rfl, rfl⟩
     go_wp2_with fail
     refine (HTR.out _).mono ?_
     rintro e w' ⟨rfl, rfl⟩
     go_wp2_with fail
     refine (HSC.out _).mono ?_
     rintro e w1 ⟨rfl, hb⟩
     have HB : Hid (Below W0.heap.size W0 (w1.alloc (.cells #[.int .i64 kS, .string tS, .slice none 0 0, .slice none 0 0] 26))) := hid (hb.trans ((Below.refl _ _).alloc hb.size _))
     have HBV := hid (Row4.make w1 26 (.int .i64 kS) (.string tS) (.slice none 0 0) (.slice none 0 0))
     clear hb hW0 HSC
     go_upto_region 15 with fail
     generalize w1.alloc (.cells #[.int .i64 kS, .string tS, .slice none 0 0, .slice none 0 0] 26) = W2 at *
     generalize w1.heap.size = gv at *
     obtain ⟨b0, b1, b2, b3⟩ := HBV.out.cells
     have HD := hid (got_ret (k0 := k0) (R := R) (kk := kS) (t := tS) (a := none) (nn := 0) (c := 0) (A := none) (m := 0) (q := 0) HS.out.1 HS.out.2.1 HB.out (fun p hp => by rw [HX.out] at hp; injection hp with hp; subst hp; exact HNS.out _ _) (HY.out))
     obtain ⟨r0, r1, r2, r3⟩ := (HS.out.2.2.below HB.out (by have := HS.out.1; omega)).cells
     obtain ⟨fr0, fr1, fr2, fr3⟩ := (HS.out.2.2.below HB.out (by have := HS.out.1; omega)).frozen
     go_wp2
     refine bodyPost_ret (v := .tuple #[.agg #[.int .i64 kS, .string tS, .slice none 0 0, .slice none 0 0], .int .i64 (e : Int)]) (by simp [results, Tryz.results99, go_sem, r0, r1, r2, r3]) rfl HD.out
 ·obtain rfl : k0 = n := by omega
  have HX : Hid (R = some (nul, 0)) := hid (by
   rw [← hR, List.drop_of_length_le (by omega)]
   rw [valP])
  clear hR hlen ihR ihP hM
  go_enter Tryz.func99, Tryz.ntmps99
  go_wp2_with fail
  refine (HBK.out _).mono ?_
  rintro e w' ⟨rfl, rfl⟩
  clear hW0
  have HD := hid (got_ret (k0 := k0) (R := R) (kk := 0) (t := ⟨#[]⟩) (a := none) (nn := 0) (c := 0) (A := none) (m := 0) (q := 0) HS.out.1 HS.out.2.1 (Below.refl W0.heap.size W0) (fun p hp => by rw [HX.out] at hp; injection hp with hp; subst hp; exact nd_nul _ _) (by rw [HX.out]))
  obtain ⟨r0, r1, r2, r3⟩ := (HS.out.2.2.below (Below.refl W0.heap.size W0) (by have := HS.out.1; omega)).cells
  obtain ⟨fr0, fr1, fr2, fr3⟩ := (HS.out.2.2.below (Below.refl W0.heap.size W0) (by have := HS.out.1; omega)).frozen
  go_wp2
  refine bodyPost_ret (v := .tuple #[.agg #[.int .i64 0, .string ⟨#[]⟩, .slice none 0 0, .slice none 0 0], .int .i64 (k0 : Int)]) (by simp [results, Tryz.results99, go_sem, r0, r1, r2, r3]) rfl HD.out
theorem Rall_any (s : ByteArray) (n : Nat) (hn : s.size = n) (hs : n ≤ 100000) : ∀ M, ROf s n M ∧ POf s n M ∧ VOf s n M
 | 0 => by
  have h1 : ROf s n 0 := fun k _ h => absurd h (by omega)
  have h2 : POf s n 0 := fun k _ h => absurd h (by omega)
  exact ⟨h1, h2, Rvalue_any s n hn hs 0 h1 h2⟩
 | M + 1 => by
  obtain ⟨-, -, h⟩ := Rall_any s n hn hs M
  have h1 := Rrow_any s n hn hs M h
  have h2 := Rpairs_any s n hn hs M h
  exact ⟨h1, h2, Rvalue_any s n hn hs (M + 1) h1 h2⟩
theorem Rvalue_at (s : ByteArray) (n : Nat) (hn : s.size = n) (hs : n ≤ 100000) (k : Nat) (hk : k ≤ n) (k0 : Nat) (hk0 : k + blk (s.data.toList.drop k) = k0) (w : World) :
  Calls Tryz.prog 99 #[.string s, .int .i64 (k : Int)] w (GotV k0 (valP (s.data.toList.drop k0)) w) :=
 (Rall_any s n hn hs (2 * (n - k0))).2.2 k hk k0 hk0 (Nat.le_refl _) w
end Go.Proofs.YtecglpocmhkkiaaGreatDoor
