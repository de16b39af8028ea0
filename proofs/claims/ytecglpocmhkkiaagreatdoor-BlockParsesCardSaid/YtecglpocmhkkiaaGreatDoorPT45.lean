/- RefBlo8, RefBlo9 -/
import Derived.Test.YtecglpocmhkkiaaGreatDoorPT12
import Derived.Test.YtecglpocmhkkiaaGreatDoorPT44
set_option linter.unusedVariables false
set_option linter.unusedSimpArgs false
set_option maxRecDepth 100000
set_option maxHeartbeats 16000000
open Go.Lib (hid)
namespace Go.Proofs.YtecglpocmhkkiaaGreatDoor
section
open Go.RowKit Go.Sort
open Nw N8 Q6 F9 B10 Go.ChangeShapes Go.WideShapes
theorem RBlock10_any (M : Nat) (ihS : SOf M) (ihP : PairsOf M) : FOf (M + 1) := by
 intro ls v k w hk hw hf hM
 have HLR : Hid (∀ W, Below w.heap.size w W → LR W v ls) := hid fun W hb => hw.below hb
 obtain ⟨R, hR⟩ : ∃ R, blkB (ls.drop k) = R := ⟨_, rfl⟩
 rw [hR]
 have hdr : ls.drop k = (ls[k]'hk) :: ls.drop (k + 1) := List.drop_eq_getElem_cons hk
 have HS := hid (fun W (hW : Below w.heap.size w W) => ihS ls v k W hk (HLR.out W hW) hf (by omega))
 have HP := hid (fun W (hW : Below w.heap.size w W) => ihP ls v k W hk (HLR.out W hW) hf (by omega))
 have HWR := hid (fun (n e : Int) W => Rwrong_any n e W)
 obtain ⟨A, cap, rfl, hcap, hcell⟩ := hw
 obtain ⟨g, rfl, hg, c0, c1, c2⟩ := hcell k hk
 have hfx := hf.2 k hk
 have hl := hf.1
 obtain ⟨x, hx⟩ : ∃ x, ls[k]'hk = x := ⟨_, rfl⟩
 rw [hx] at hdr c0 c1 c2 hfx HS HP
 obtain ⟨n, hn⟩ : ∃ n, ls.length = n := ⟨_, rfl⟩
 have hkn : k < n := hn ▸ hk
 rw [hn] at hcap HLR HS HP hl ⊢
 obtain ⟨nx, hnx⟩ : ∃ a : Nat, x.no = a := ⟨_, rfl⟩
 obtain ⟨i, hi⟩ : ∃ a : Nat, x.ind = a := ⟨_, rfl⟩
 obtain ⟨T, hT⟩ : ∃ a : ByteArray, (⟨x.text.toArray⟩ : ByteArray) = a := ⟨_, rfl⟩
 have hTl : T.data.toList = x.text := by rw [← hT]
 rw [hnx] at c0
 rw [hi] at c1
 rw [hT] at c2
 have HTS : Hid (T.size ≤ 100000) := hid (by rw [← hTl, len_eq] at hfx; omega)
 have HEN := hid (fun (K : Option (Option (L8 × L8))) (hK : entP T.data.toList = K) (y r : ByteArray) (hy : entY K = y.data.toList) (hr : entR K = r.data.toList) (x : Int) (hx : entN K = x) (W : World) => REnt_any T W T.size rfl HTS.out K hK y r hy hr x hx)
 have HHY := hid (fun b (hb : hyp T.data.toList = b) W => RHyp_any T b W (by have := HTS.out; omega) hb)
 have HVL := hid (fun (R : Res) (hR : valL T.data.toList nx = R) W => RVal_any T HTS.out nx k R hR W)
 have HDR := hid hdr
 have HRR := hid hR
 have HTL := hid hTl
 have HNX := hid hnx
 have HI := hid hi
 generalize hW0 : w.alloc (.cells #[.int .i64 0, .string ⟨#[]⟩, .slice none 0 0, .slice none 0 0, .int .i64 0, .int .i64 0, .int .i64 0] 50) = W0 at *
 have hsz : W0.heap.size = w.heap.size + 1 := by rw [← hW0]; simp
 have hb0 : Below w.heap.size w W0 := by rw [← hW0]; exact (Below.refl _ _).alloc (Nat.le_refl _) _
 have hr0 : Row7 W0 w.heap.size 50 (.int .i64 0) (.string ⟨#[]⟩) (.slice none 0 0) (.slice none 0 0) (.int .i64 0) (.int .i64 0) (.int .i64 0) := by rw [← hW0]; exact Row7.make w _ _ _ _ _ _ _ _
 have d0 := (hb0.cell (p := ⟨g, k * 3, none⟩) hg).trans c0
 have d1 := (hb0.cell (p := ⟨g, k * 3 + 1, none⟩) hg).trans c1
 have d2 := (hb0.cell (p := ⟨g, k * 3 + 2, none⟩) hg).trans c2
 have hal : Below W0.heap.size W0 (W0.alloc (.cells #[.int .i64 (nx : Int), .int .i64 (i : Int), .string T] 52)) := (Below.refl _ _).alloc (Nat.le_refl _) _
 have HB1 : Hid (Below w.heap.size w (W0.alloc (.cells #[.int .i64 (nx : Int), .int .i64 (i : Int), .string T] 52))) := hid (hb0.trans (hal.mono (by omega)))
 have HR1 := hid (hr0.below hal (by omega))
 have HX3 := hid (Row3.make W0 52 (.int .i64 (nx : Int)) (.int .i64 (i : Int)) (.string T))
 have hkz : (k : Int) < (n : Int) := by omega
 have wk : IntKind.i64.wrap ((k : Int) + 1) = (k : Int) + 1 := IntWalk.i64_in _ (by omega)
 clear hR hsz hb0 hr0 hal hn hi hnx hT hTl hdr hfx c0 c1 c2 hcell hf ihS ihP hM hx hk hl hkn
 cases hh : hyp T.data.toList with
 | true =>
  have HYB := hid (HHY.out true hh)
  have HC : Hid (∀ W, Below w.heap.size w W → Calls Tryz.prog 38 #[.slice (some ⟨g, 0, none⟩) n cap, .int .i64 (k : Int)] W (GotF k R W)) := hid (fun W hW => by
   have h := HS.out W hW
   rw [HDR.out, ← blk_seq (by rw [← HTL.out]; exact hh), ← HDR.out, HRR.out] at h
   exact h)
  clear hh HS HP HEN HHY HVL
  go_enter Tryz.func20, Tryz.ntmps20
  go_wp2_with fail
  refine (HYB.out _).mono ?_
  rintro e w' ⟨rfl, rfl⟩
  go_wp2_with fail
  clear d0 d1 d2 hW0
  generalize W0.alloc (.cells #[.int .i64 (nx : Int), .int .i64 (i : Int), .string T] 52) = W1 at *
  generalize W0.heap.size = xb at *
  refine (HC.out _ HB1.out).mono ?_
  rintro e w5 ⟨v_k, v_s, v_a, v_n, v_c, v_A, v_m, v_q, v_x, v_o, v_e, rfl, hb5, hf5⟩
  have HRB := hid (HR1.out.below hb5 HR1.out.lt)
  have HD := hid (fnd_ret2 (k := k) (R := R) (w := w) (W := w5) (kk := v_k) (t := v_s) (a := v_a) (nn := v_n) (c := v_c) (A := v_A) (m := v_m) (q := v_q) (nx := v_x) (no := v_o) (er := v_e) (HB1.out.trans (hb5.mono HB1.out.size)) (FIs.keep (fun b (hb : W1.heap.size ≤ b ∧ b < w5.heap.size) => ⟨⟨Nat.lt_of_lt_of_le HR1.out.lt hb.1, hb.2⟩, rfl⟩) hf5))
  clear hb5 hf5
  obtain ⟨r0, r1, r2, r3, r4, r5, r6⟩ := HRB.out.cells
  obtain ⟨fr0, fr1, fr2, fr3, fr4, fr5, fr6⟩ := HRB.out.frozen
  go_wp2
  refine bodyPost_ret (v := .agg #[.int .i64 v_k, .string v_s, .slice v_a v_n v_c, .slice v_A v_m v_q, .int .i64 v_x, .int .i64 v_o, .int .i64 v_e]) (by simp [results, Tryz.results20, go_sem, r0, r1, r2, r3, r4, r5, r6]) rfl HD.out
 | false =>
  have HYB := hid (HHY.out false hh)
  have HHF : Hid (hyp x.text = false) := hid (by rw [← HTL.out]; exact hh)
  clear hh HHY HS
  obtain ⟨KE, hKE⟩ : ∃ KE, entP T.data.toList = KE := ⟨_, rfl⟩
  have HKE : Hid (entP x.text = KE) := hid (by rw [← HTL.out]; exact hKE)
  obtain ⟨y, hy⟩ : ∃ y : ByteArray, ba (entY KE) = y := ⟨_, rfl⟩
  obtain ⟨r, hr⟩ : ∃ r : ByteArray, ba (entR KE) = r := ⟨_, rfl⟩
  obtain ⟨xe, hxe⟩ : ∃ xe, entN KE = xe := ⟨_, rfl⟩
  have HENT := hid (HEN.out KE hKE y r (by rw [← hy, ba_data]) (by rw [← hr, ba_data]) xe hxe)
  clear hKE hy hr HEN
  rcases KE with _ | _ | p
  ·obtain rfl : (-1 : Int) = xe := hxe
   have HX : Hid (R = .bad nx 3) := hid (by
    have h := HRR.out
    rw [HDR.out, blk_bad HHF.out HKE.out, HNX.out] at h
    exact h.symm)
   clear HP HVL
   go_enter Tryz.func20, Tryz.ntmps20
   go_wp2_with fail
   refine (HYB.out _).mono ?_
   rintro e w' ⟨rfl, rfl⟩
   go_wp2_with fail
   clear d0 d1 d2 hW0
   generalize W0.alloc (.cells #[.int .i64 (nx : Int), .int .i64 (i : Int), .string T] 52) = W1 at *
   generalize W0.heap.size = xb at *
   refine (HENT.out _).mono ?_
   rintro e w1 ⟨rfl, hb1⟩
   have HB2 := hid (HB1.out.trans (hb1.mono HB1.out.size))
   have HR2 := hid (HR1.out.below hb1 HR1.out.lt)
   obtain ⟨x0, x1, x2⟩ := (HX3.out.below hb1 HX3.out.lt).cells
   clear hb1 HB1 HR1 HX3
   go_wp2_with fail
   refine (HWR.out _ _ _).mono ?_
   rintro e w3 ⟨rfl, hb3⟩
   have HRB := hid (HR2.out.below hb3 HR2.out.lt)
   have HD := hid (fnd_ret2 (k := k) (R := R) (w := w) (W := w3) (kk := 0) (t := ⟨#[]⟩) (a := none) (nn := 0) (c := 0) (A := none) (m := 0) (q := 0) (nx := 0) (no := (nx : Int)) (er := 3) (HB2.out.trans (hb3.mono HB2.out.size)) (by rw [HX.out]; exact ⟨rfl, rfl⟩))
   clear hb3 x0 x1 x2
   obtain ⟨r0, r1, r2, r3, r4, r5, r6⟩ := HRB.out.cells
   obtain ⟨fr0, fr1, fr2, fr3, fr4, fr5, fr6⟩ := HRB.out.frozen
   go_wp2
   refine bodyPost_ret (v := .agg #[.int .i64 0, .string ⟨#[]⟩, .slice none 0 0, .slice none 0 0, .int .i64 0, .int .i64 (nx : Int), .int .i64 3]) (by simp [results, Tryz.results20, go_sem, r0, r1, r2, r3, r4, r5, r6]) rfl HD.out
  ·obtain rfl : (0 : Int) = xe := hxe
   have HC : Hid (∀ W, Calls Tryz.prog 41 #[.string T, .int .i64 (nx : Int), .int .i64 ((k : Int) + 1)] W (GotF k R W)) := hid (fun W => HVL.out R (by
    have h := HRR.out
    rw [HDR.out, blk_val HHF.out HKE.out, HNX.out, ← HTL.out] at h
    exact h) W)
   clear HP HVL
   go_enter Tryz.func20, Tryz.ntmps20
   go_wp2_with fail
   refine (HYB.out _).mono ?_
   rintro e w' ⟨rfl, rfl⟩
   go_wp2_with fail
   clear d0 d1 d2 hW0
   generalize W0.alloc (.cells #[.int .i64 (nx : Int), .int .i64 (i : Int), .string T] 52) = W1 at *
   generalize W0.heap.size = xb at *
   refine (HENT.out _).mono ?_
   rintro e w1 ⟨rfl, hb1⟩
   have HB2 := hid (HB1.out.trans (hb1.mono HB1.out.size))
   have HR2 := hid (HR1.out.below hb1 HR1.out.lt)
   obtain ⟨x0, x1, x2⟩ := (HX3.out.below hb1 HX3.out.lt).cells
   clear hb1 HB1 HR1 HX3
   go_wp2_with fail
   refine (HC.out _).mono ?_
   rintro e w5 ⟨v_k, v_s, v_a, v_n, v_c, v_A, v_m, v_q, v_x, v_o, v_e, rfl, hb5, hf5⟩
   have HRB := hid (HR2.out.below hb5 HR2.out.lt)
   have HD := hid (fnd_ret2 (k := k) (R := R) (w := w) (W := w5) (kk := v_k) (t := v_s) (a := v_a) (nn := v_n) (c := v_c) (A := v_A) (m := v_m) (q := v_q) (nx := v_x) (no := v_o) (er := v_e) (HB2.out.trans (hb5.mono HB2.out.size)) (FIs.keep (fun b (hb : w1.heap.size ≤ b ∧ b < w5.heap.size) => ⟨⟨Nat.lt_of_lt_of_le HR2.out.lt hb.1, hb.2⟩, rfl⟩) hf5))
   clear hb5 hf5 x0 x1 x2
   obtain ⟨r0, r1, r2, r3, r4, r5, r6⟩ := HRB.out.cells
   obtain ⟨fr0, fr1, fr2, fr3, fr4, fr5, fr6⟩ := HRB.out.frozen
   go_wp2
   refine bodyPost_ret (v := .agg #[.int .i64 v_k, .string v_s, .slice v_a v_n v_c, .slice v_A v_m v_q, .int .i64 v_x, .int .i64 v_o, .int .i64 v_e]) (by simp [results, Tryz.results20, go_sem, r0, r1, r2, r3, r4, r5, r6]) rfl HD.out
  ·obtain rfl : (1 : Int) = xe := hxe
   have HC : Hid (∀ W, Below w.heap.size w W → Calls Tryz.prog 40 #[.slice (some ⟨g, 0, none⟩) n cap, .int .i64 (k : Int)] W (GotF k R W)) := hid (fun W hW => by
    have h := HP.out W hW
    rw [HDR.out, ← blk_map HHF.out HKE.out, ← HDR.out, HRR.out] at h
    exact h)
   clear HP HVL
   go_enter Tryz.func20, Tryz.ntmps20
   go_wp2_with fail
   refine (HYB.out _).mono ?_
   rintro e w' ⟨rfl, rfl⟩
   go_wp2_with fail
   clear d0 d1 d2 hW0
   generalize W0.alloc (.cells #[.int .i64 (nx : Int), .int .i64 (i : Int), .string T] 52) = W1 at *
   generalize W0.heap.size = xb at *
   refine (HENT.out _).mono ?_
   rintro e w1 ⟨rfl, hb1⟩
   have HB2 := hid (HB1.out.trans (hb1.mono HB1.out.size))
   have HR2 := hid (HR1.out.below hb1 HR1.out.lt)
   clear hb1 HB1 HR1 HX3
   go_wp2_with fail
   refine (HC.out _ HB2.out).mono ?_
   rintro e w5 ⟨v_k, v_s, v_a, v_n, v_c, v_A, v_m, v_q, v_x, v_o, v_e, rfl, hb5, hf5⟩
   have HRB := hid (HR2.out.below hb5 HR2.out.lt)
   have HD := hid (fnd_ret2 (k := k) (R := R) (w := w) (W := w5) (kk := v_k) (t := v_s) (a := v_a) (nn := v_n) (c := v_c) (A := v_A) (m := v_m) (q := v_q) (nx := v_x) (no := v_o) (er := v_e) (HB2.out.trans (hb5.mono HB2.out.size)) (FIs.keep (fun b (hb : w1.heap.size ≤ b ∧ b < w5.heap.size) => ⟨⟨Nat.lt_of_lt_of_le HR2.out.lt hb.1, hb.2⟩, rfl⟩) hf5))
   clear hb5 hf5
   obtain ⟨r0, r1, r2, r3, r4, r5, r6⟩ := HRB.out.cells
   obtain ⟨fr0, fr1, fr2, fr3, fr4, fr5, fr6⟩ := HRB.out.frozen
   go_wp2
   refine bodyPost_ret (v := .agg #[.int .i64 v_k, .string v_s, .slice v_a v_n v_c, .slice v_A v_m v_q, .int .i64 v_x, .int .i64 v_o, .int .i64 v_e]) (by simp [results, Tryz.results20, go_sem, r0, r1, r2, r3, r4, r5, r6]) rfl HD.out
theorem Rall10_any : ∀ M, SOf M ∧ PairsOf M ∧ FOf M
 | 0 => by
  have hbig : ∀ (ls : List Ln) (k : Nat), k < ls.length → 0 < big (ls.drop k) := fun ls k hk => by
   rw [List.drop_eq_getElem_cons hk]
   simp only [big]
   omega
  refine ⟨fun ls v k w hk hw hf h => ?_, fun ls v k w hk hw hf h => ?_, fun ls v k w hk hw hf h => absurd h (by omega)⟩
  ·exact absurd h (by have := hbig ls k hk; omega)
  ·exact absurd h (by have := hbig ls k hk; omega)
 | M + 1 => by
  obtain ⟨h1, h2, h3⟩ := Rall10_any M
  exact ⟨Rrow10_any M h3, Rpairs10_any M h3, RBlock10_any M h1 h2⟩
theorem RBlk_any (ls : List Ln) (v : Value) (k : Nat) (w : World) (hk : k < ls.length) (hw : LR w v ls) (hf : FineB ls) :
  Calls Tryz.prog 20 #[v, .int .i64 (k : Int)] w (GotF k (blkB (ls.drop k)) w) :=
 (Rall10_any (2 * big (ls.drop k) + 1)).2.2 ls v k w hk hw hf (Nat.le_refl _)
end
section
open Go.RowKit Go.Sort
open Nw N8 Q6 F9 B10 Go.ChangeShapes Go.WideShapes
def ParL (P : Nd × Nat × Int) (w : World) (e : Ending) (w' : World) : Prop := ∃ (k : Int) (t : ByteArray) (a : Option Addr) (n c : Nat) (A : Option Addr) (m q : Nat),
 e = .returned (.tuple #[.agg #[.int .i64 k, .string t, .slice a n c, .slice A m q], .int .i64 (P.2.1 : Int), .int .i64 P.2.2]) ∧ NdW w' P.1 (.int .i64 k) (.string t) (.slice a n c) (.slice A m q) ∧ Below w.heap.size w w'
theorem parl_ret {w W : World} {P : Nd × Nat × Int} {d : Nd} {kk : Int} {t : ByteArray} {a : Option Addr} {nn c : Nat} {A : Option Addr} {m q : Nat} (hb : Below w.heap.size w W)
  (nd : NdC (fun b => b ≠ w.heap.size ∧ b < W.heap.size) W d (.int .i64 kk) (.string t) (.slice a nn c) (.slice A m q)) {no E : Int} (hP : P.1 = d ∧ (P.2.1 : Int) = no ∧ P.2.2 = E) :
  ParL P w (.returned (.tuple #[.agg #[.int .i64 kk, .string t, .slice a nn c, .slice A m q], .int .i64 no, .int .i64 E])) (p4 W w.heap.size (.int .i64 kk) (.string t) (.slice a nn c) (.slice A m q)) := by
 obtain ⟨h1, h2, h3⟩ := hP
 subst h2; subst h3
 refine ⟨_, _, _, _, _, _, _, _, rfl, ?_, below_p4 hb (Nat.le_refl _) _ _ _ _⟩
 rw [h1]
 exact NdC.keep (fun b hb => ⟨by rw [p4_size]; exact hb.2, p4_oth b hb.1 _ _ _ _⟩) _ nd
theorem ParL.drew {P : Nd × Nat × Int} {w w' : World} {e : Ending} (h : ParL P w e w') : ParL P w e w'.drew := by
 obtain ⟨k, t, a, n, c, A, m, q, h1, h2, h3⟩ := h
 exact ⟨k, t, a, n, c, A, m, q, h1, NdC.keep (w := w') (w' := w'.drew) (S := fun b => b < w'.heap.size) (fun b hb => ⟨hb, rfl⟩) _ h2, h3.drew⟩
theorem RParse10_any (s : ByteArray) (w : World) (hs : s.size ≤ 100000) (P : Nd × Nat × Int) (hP : parB s.data.toList = P) :
  Calls Tryz.prog 8 #[.string s] w (ParL P w) := by
 obtain ⟨ls, no, E, hf⟩ : ∃ ls no E, fileL s.data.toList = (ls, no, E) := ⟨_, _, _, rfl⟩
 have HSP := hid (fun W => RSplit_any s W hs ls no E hf)
 obtain ⟨hl, hx⟩ := file_small hf
 have HFB : Hid (FineB ls) := hid ⟨by omega, fun j h => by have := hx _ (List.getElem_mem h); omega⟩
 generalize hW0 : w.alloc (.cells #[.int .i64 0, .string ⟨#[]⟩, .slice none 0 0, .slice none 0 0] 26) = W0 at *
 have hsz : W0.heap.size = w.heap.size + 1 := by rw [← hW0]; simp
 have hb0 : Below w.heap.size w W0 := by rw [← hW0]; exact (Below.refl _ _).alloc (Nat.le_refl _) _
 have hr0 : Row4 W0 w.heap.size 26 (.int .i64 0) (.string ⟨#[]⟩) (.slice none 0 0) (.slice none 0 0) := by rw [← hW0]; exact Row4.make w _ _ _ _ _
 have HS := hid (And.intro hsz (And.intro hb0 hr0))
 clear hsz hb0 hr0 hx
 by_cases hE : E = 0
 ·subst hE
  cases ls with
  | nil =>
   have HX : Hid (P = (nul, 0, 0)) := hid (by rw [← hP, par_nil hf])
   clear hP HFB hl hf
   go_enter Tryz.func8, Tryz.ntmps8
   go_wp2_with fail
   refine (HSP.out _).mono ?_
   rintro e w1 ⟨v, rfl, hlr, hb⟩
   obtain ⟨A, cap, rfl, -, -⟩ := hlr
   rw [show ([] : List Ln).length = 0 from rfl]
   have hO := HS.out.1
   have HB : Hid (Below w.heap.size w w1) := hid (HS.out.2.1.trans (hb.mono (by omega)))
   have HRB := hid (HS.out.2.2.below hb (by omega))
   clear hb hW0 HSP hO HS
   have HD := hid (parl_ret (P := P) (W := w1) (kk := 0) (t := ⟨#[]⟩) (a := none) (nn := 0) (c := 0) (A := none) (m := 0) (q := 0) HB.out (nd_nul _ _) (by rw [HX.out]; exact ⟨rfl, rfl, rfl⟩))
   obtain ⟨r0, r1, r2, r3⟩ := HRB.out.cells
   obtain ⟨fr0, fr1, fr2, fr3⟩ := HRB.out.frozen
   go_wp2
   refine bodyPost_ret (v := .tuple #[.agg #[.int .i64 0, .string ⟨#[]⟩, .slice none 0 0, .slice none 0 0], .int .i64 0, .int .i64 0]) (by simp [results, Tryz.results8, go_sem, r0, r1, r2, r3]) rfl HD.out
  | cons x ls =>
   rw [par_cons hf] at hP
   clear hf
   have HERR := hid (fun n e => @blk_err x ls n e)
   obtain ⟨L, hL⟩ : ∃ L, x :: ls = L := ⟨_, rfl⟩
   have hLp : 0 < L.length := by rw [← hL]; exact Nat.succ_pos _
   rw [hL] at hP HERR HFB HSP hl
   clear hL
   obtain ⟨K, hK⟩ : ∃ K, blkB L = K := ⟨_, rfl⟩
   rw [hK] at hP HERR
   have HBK : Hid (∀ W v, LR W v L → Calls Tryz.prog 20 #[v, .int .i64 0] W (GotF 0 K W)) := hid (fun W v hW => by
    have h := RBlk_any L v 0 W hLp hW HFB.out
    rw [List.drop_zero, hK] at h
    exact h)
   obtain ⟨n, hn⟩ : ∃ n, L.length = n := ⟨_, rfl⟩
   have hnp : 0 < n := hn ▸ hLp
   have hnz : ((n : Int) == 0) = false := beq_eq_false_iff_ne.2 (by omega)
   have HN := hid hn
   have hl2 : n ≤ 8192 := hn ▸ hl
   clear hK hLp hl hn
   go_enter Tryz.func8, Tryz.ntmps8
   go_wp2_with fail
   refine (HSP.out _).mono ?_
   rintro e w1 ⟨v, rfl, hlr, hb⟩
   have HLR := hid hlr
   obtain ⟨A, cap, rfl, hcap, hcell⟩ := hlr
   rw [HN.out] at HLR hcap ⊢
   have HCELL := hid hcell
   have hO := HS.out.1
   have HB : Hid (Below w.heap.size w w1) := hid (HS.out.2.1.trans (hb.mono (by omega)))
   have HR0 := hid (HS.out.2.2.below hb (by omega))
   clear hb hW0 HSP hO HS hcell
   go_wp2_with fail
   refine (HBK.out _ _ HLR.out).mono ?_
   rintro e w5 ⟨v_k, v_s, v_a, v_n, v_c, v_A, v_m, v_q, v_x, v_o, v_e, rfl, hb5, hf5⟩
   have hb6 : Below w1.heap.size w1 (w5.alloc (.cells #[.int .i64 v_k, .string v_s, .slice v_a v_n v_c, .slice v_A v_m v_q, .int .i64 v_x, .int .i64 v_o, .int .i64 v_e] 50)) := hb5.trans ((Below.refl _ _).alloc hb5.size _)
   have HB6 : Hid (Below w.heap.size w (w5.alloc (.cells #[.int .i64 v_k, .string v_s, .slice v_a v_n v_c, .slice v_A v_m v_q, .int .i64 v_x, .int .i64 v_o, .int .i64 v_e] 50))) := hid (HB.out.trans (hb6.mono HB.out.size))
   have HRB := hid (HR0.out.below hb6 HR0.out.lt)
   have HBV := hid (Row7.make w5 50 (.int .i64 v_k) (.string v_s) (.slice v_a v_n v_c) (.slice v_A v_m v_q) (.int .i64 v_x) (.int .i64 v_o) (.int .i64 v_e))
   have HFK : Hid (FIs (fun b => b ≠ w.heap.size ∧ b < (w5.alloc (.cells #[.int .i64 v_k, .string v_s, .slice v_a v_n v_c, .slice v_A v_m v_q, .int .i64 v_x, .int .i64 v_o, .int .i64 v_e] 50)).heap.size) (w5.alloc (.cells #[.int .i64 v_k, .string v_s, .slice v_a v_n v_c, .slice v_A v_m v_q, .int .i64 v_x, .int .i64 v_o, .int .i64 v_e] 50)) 0 K v_k v_s (.slice v_a v_n v_c) (.slice v_A v_m v_q) v_x v_o v_e) := hid (FIs.keep (fun b (hb : w1.heap.size ≤ b ∧ b < w5.heap.size) => ⟨⟨Nat.ne_of_gt (Nat.lt_of_lt_of_le HR0.out.lt hb.1), Nat.lt_of_lt_of_le hb.2 (by simp)⟩, ((Below.refl w5.heap.size w5).alloc (Nat.le_refl _) (.cells #[.int .i64 v_k, .string v_s, .slice v_a v_n v_c, .slice v_A v_m v_q, .int .i64 v_x, .int .i64 v_o, .int .i64 v_e] 50)).block b hb.2⟩) hf5)
   have HC6 : Hid (∀ (k : Nat) (h : k < L.length), ∃ g, A = some ⟨g, 0, none⟩ ∧ g ≠ w.heap.size ∧ (w5.alloc (.cells #[.int .i64 v_k, .string v_s, .slice v_a v_n v_c, .slice v_A v_m v_q, .int .i64 v_x, .int .i64 v_o, .int .i64 v_e] 50)).cell? ⟨g, k * 3, none⟩ = some (.int .i64 ((L[k]'h).no : Int))) := hid (fun k h => by
    obtain ⟨g, h1, h2, h3, -, -⟩ := HCELL.out k h
    refine ⟨g, h1, fun e => ?_, (hb6.cell (p := ⟨g, k * 3, none⟩) h2).trans h3⟩
    obtain ⟨g0, h4, -, -, h5, -⟩ := HCELL.out 0 (by rw [HN.out]; exact hnp)
    rw [h1] at h4
    injection h4 with h4
    injection h4 with h4
    subst h4
    subst e
    have h6 := HR0.out.cells.2.1
    have h7 : w1.cell? ⟨w.heap.size, 1, none⟩ = some (.int .i64 ((L[0]'(by rw [HN.out]; exact hnp)).ind : Int)) := h5
    rw [h6] at h7
    cases h7)
   clear hb5 hf5 hb6 HB HR0 HBK HLR HCELL
   go_upto_region 7 with fail
   generalize w5.alloc (.cells #[.int .i64 v_k, .string v_s, .slice v_a v_n v_c, .slice v_A v_m v_q, .int .i64 v_x, .int .i64 v_o, .int .i64 v_e] 50) = W2 at *
   generalize w5.heap.size = fb at *
   cases K with
   | bad bn be =>
    obtain ⟨ho, he⟩ := HFK.out
    have hne := HERR.out bn be rfl
    rw [← he] at hne
    have e1 : (v_e == 0) = false := beq_eq_false_iff_ne.2 hne
    have e2 : (v_e != 0) = true := by rw [bne_iff_ne]; exact hne
    have HX : Hid (P = (nul, bn, be)) := hid hP.symm
    have HD := hid (parl_ret (P := P) (W := W2) (kk := 0) (t := ⟨#[]⟩) (a := none) (nn := 0) (c := 0) (A := none) (m := 0) (q := 0) HB6.out (nd_nul _ _) (no := v_o) (E := v_e) (by rw [HX.out]; exact ⟨rfl, ho.symm, he.symm⟩))
    clear hP ho he hne HFK HC6 HERR
    obtain ⟨b0, b1, b2, b3, b4, b5, b6⟩ := HBV.out.cells
    obtain ⟨r0, r1, r2, r3⟩ := HRB.out.cells
    obtain ⟨fr0, fr1, fr2, fr3⟩ := HRB.out.frozen
    go_wp2
    go_region
    all_goals
     go_wp2
     refine bodyPost_ret (v := .tuple #[.agg #[.int .i64 0, .string ⟨#[]⟩, .slice none 0 0, .slice none 0 0], .int .i64 v_o, .int .i64 v_e]) (by simp [results, Tryz.results8, go_sem, r0, r1, r2, r3]) rfl HD.out.drew
   | ok d k2 =>
    obtain ⟨he, hx2, hnd⟩ := HFK.out
    subst he
    rw [Nat.zero_add] at hx2
    subst hx2
    have HNDD := hid hnd
    clear hnd HFK HERR
    by_cases hk : k2 < n
    ·have hkl : k2 < L.length := by rw [HN.out]; exact hk
     have hkz : (k2 : Int) < (n : Int) := by omega
     rw [parK_low hkl] at hP
     obtain ⟨g, rfl, hgw, c0⟩ := HC6.out k2 hkl
     have hgw2 : ¬ w.heap.size = g := fun e => hgw e.symm
     obtain ⟨nx, hnx⟩ : ∃ a : Nat, (L[k2]'hkl).no = a := ⟨_, rfl⟩
     rw [hnx] at c0 hP
     have HX : Hid (P = (nul, nx, 3)) := hid hP.symm
     have HD := hid (parl_ret (P := P) (W := W2) (kk := 0) (t := ⟨#[]⟩) (a := none) (nn := 0) (c := 0) (A := none) (m := 0) (q := 0) HB6.out (nd_nul _ _) (no := (nx : Int)) (E := 3) (by rw [HX.out]; exact ⟨rfl, rfl, rfl⟩))
     clear hP hnx HC6 HNDD hk
     obtain ⟨b0, b1, b2, b3, b4, b5, b6⟩ := HBV.out.cells
     obtain ⟨r0, r1, r2, r3⟩ := HRB.out.cells
     obtain ⟨fr0, fr1, fr2, fr3⟩ := HRB.out.frozen
     go_wp2
     go_region
     all_goals
      go_wp2
      refine bodyPost_ret (v := .tuple #[.agg #[.int .i64 0, .string ⟨#[]⟩, .slice none 0 0, .slice none 0 0], .int .i64 (nx : Int), .int .i64 3]) (by simp [results, Tryz.results8, go_sem, r0, r1, r2, r3]) rfl HD.out.drew
    ·have hkz : ¬ (k2 : Int) < (n : Int) := by omega
     rw [parK_end (by rw [HN.out]; omega)] at hP
     clear HC6 hk
     obtain ⟨b0, b1, b2, b3, b4, b5, b6⟩ := HBV.out.cells
     cases hok : okT 2000 d with
     | false =>
      have HRI := hid (RRight_any d false hok _ _ _ _ W2 (NdC.keep (fun b hb => ⟨hb.2, rfl⟩) _ HNDD.out))
      have HX : Hid (P = (nul, 0, 9)) := hid (by rw [← hP, hok]; rfl)
      clear hok hP
      go_wp2_with fail
      refine HRI.out.mono ?_
      rintro e w3 ⟨rfl, hb3⟩
      have HB3 := hid (HB6.out.trans (hb3.mono HB6.out.size))
      replace HRB := hid (HRB.out.below hb3 HRB.out.lt)
      replace HBV := hid (HBV.out.below hb3 HBV.out.lt)
      clear hb3 b0 b1 b2 b3 b4 b5 b6 HB6 HNDD
      have HD := hid (parl_ret (P := P) (W := w3) (kk := 0) (t := ⟨#[]⟩) (a := none) (nn := 0) (c := 0) (A := none) (m := 0) (q := 0) HB3.out (nd_nul _ _) (no := 0) (E := 9) (by rw [HX.out]; exact ⟨rfl, rfl, rfl⟩))
      obtain ⟨r0, r1, r2, r3⟩ := HRB.out.cells
      obtain ⟨fr0, fr1, fr2, fr3⟩ := HRB.out.frozen
      obtain ⟨b0, b1, b2, b3, b4, b5, b6⟩ := HBV.out.cells
      go_wp2
      refine bodyPost_ret (v := .tuple #[.agg #[.int .i64 0, .string ⟨#[]⟩, .slice none 0 0, .slice none 0 0], .int .i64 0, .int .i64 9]) (by simp [results, Tryz.results8, go_sem, r0, r1, r2, r3]) rfl HD.out
     | true =>
      have HRI := hid (RRight_any d true hok _ _ _ _ W2 (NdC.keep (fun b hb => ⟨hb.2, rfl⟩) _ HNDD.out))
      have HX : Hid (P = (d, 0, 0)) := hid (by rw [← hP, hok]; rfl)
      clear hok hP
      go_wp2_with fail
      refine HRI.out.mono ?_
      rintro e w3 ⟨rfl, hb3⟩
      have HB3 := hid (HB6.out.trans (hb3.mono HB6.out.size))
      have HN3 : Hid (NdC (fun b => b ≠ w.heap.size ∧ b < w3.heap.size) w3 d (.int .i64 v_k) (.string v_s) (.slice v_a v_n v_c) (.slice v_A v_m v_q)) := hid (NdC.keep (fun b hb => ⟨⟨hb.1, Nat.lt_of_lt_of_le hb.2 hb3.size⟩, hb3.block b hb.2⟩) _ HNDD.out)
      replace HRB := hid (HRB.out.below hb3 HRB.out.lt)
      replace HBV := hid (HBV.out.below hb3 HBV.out.lt)
      clear hb3 b0 b1 b2 b3 b4 b5 b6 HB6 HNDD
      have HD := hid (parl_ret (P := P) (no := 0) (E := 0) HB3.out HN3.out (by rw [HX.out]; exact ⟨rfl, rfl, rfl⟩))
      obtain ⟨r0, r1, r2, r3⟩ := HRB.out.cells
      obtain ⟨fr0, fr1, fr2, fr3⟩ := HRB.out.frozen
      obtain ⟨b0, b1, b2, b3, b4, b5, b6⟩ := HBV.out.cells
      go_wp2
      refine bodyPost_ret (v := .tuple #[.agg #[.int .i64 v_k, .string v_s, .slice v_a v_n v_c, .slice v_A v_m v_q], .int .i64 0, .int .i64 0]) (by simp [results, Tryz.results8, go_sem, r0, r1, r2, r3]) rfl HD.out
 ·have e1 : (E == 0) = false := beq_eq_false_iff_ne.2 hE
  have e2 : (E != 0) = true := by rw [bne_iff_ne]; exact hE
  have HX : Hid (P = (nul, no, E)) := hid (by rw [← hP, par_err hf hE])
  clear hP HFB hl hE hf
  go_enter Tryz.func8, Tryz.ntmps8
  go_wp2_with fail
  refine (HSP.out _).mono ?_
  rintro e w1 ⟨v, rfl, hlr, hb⟩
  have hO := HS.out.1
  have HB : Hid (Below w.heap.size w w1) := hid (HS.out.2.1.trans (hb.mono (by omega)))
  have HRB := hid (HS.out.2.2.below hb (by omega))
  clear hb hW0 HSP hO HS hlr
  have HD := hid (parl_ret (P := P) (W := w1) (kk := 0) (t := ⟨#[]⟩) (a := none) (nn := 0) (c := 0) (A := none) (m := 0) (q := 0) HB.out (nd_nul _ _) (no := (no : Int)) (E := E) (by rw [HX.out]; exact ⟨rfl, rfl, rfl⟩))
  obtain ⟨r0, r1, r2, r3⟩ := HRB.out.cells
  obtain ⟨fr0, fr1, fr2, fr3⟩ := HRB.out.frozen
  go_wp2
  refine bodyPost_ret (v := .tuple #[.agg #[.int .i64 0, .string ⟨#[]⟩, .slice none 0 0, .slice none 0 0], .int .i64 (no : Int), .int .i64 E]) (by simp [results, Tryz.results8, go_sem, r0, r1, r2, r3]) rfl HD.out
end
end Go.Proofs.YtecglpocmhkkiaaGreatDoor
