/- EchWalk -/
import Derived.Test.YtkcilmmaggmmoaaGreatDoorNT18
set_option linter.unusedVariables false
set_option linter.unusedSimpArgs false
set_option maxRecDepth 100000
set_option maxHeartbeats 16000000
open Go.Lib (hid)
namespace Go.Proofs.YtkcilmmaggmmoaaGreatDoor
namespace N8
end N8
namespace Nw
end Nw
end Go.Proofs.YtkcilmmaggmmoaaGreatDoor
namespace Go.Proofs.YtkcilmmaggmmoaaGreatDoor
open Go.RowKit Go.Sort
open Nw N8 Go.ChangeShapes Go.WideShapes
namespace Ech
theorem Text_any (s : ByteArray) (w : World) :
  Calls Tryz.prog 48 #[.string s] w fun e w' => e = .returned (.agg #[.int .i64 1, .string s, .slice none 0 0, .slice none 0 0]) ∧ Below w.heap.size w w' := by
 go_enter Tryz.func48, Tryz.ntmps48
 go_wp2
 refine bodyPost_ret (v := .agg #[.int .i64 1, .string s, .slice none 0 0, .slice none 0 0]) (by simp [results, Tryz.results48, go_sem]) rfl ⟨rfl, (Below.refl _ _).alloc (Nat.le_refl _) _⟩
section
variable (Pw : World → Prop) (hPw : ∀ w w', Pw w → Below w.heap.size w w' → Pw w') (Q : L8 → Prop) (F : L8 → TR) (p : Option Addr)
variable (HF : ∀ (s : ByteArray) (W : World), Pw W → Q s.data.toList → Calls Tryz.prog 19 #[.string s, .pointer p] W (fun e W' => TextO (F s.data.toList) e ∧ Below W.heap.size W W'))
def RepOf (S : Nat → Prop) (N : Nat) : Prop :=
 ∀ (d : Nd), cntT d ≤ N → cntT d ≤ 100000 → (∀ x ∈ textsT d, Q x) → ∀ (c0 c1 c2 c3 : Value) (w : World), Pw w → Old S w → NdC S w d c0 c1 c2 c3 →
  Calls Tryz.prog 35 #[.agg #[c0, c1, c2, c3], .func (.func 19) #[] #[.pointer p]] w (fun e w' => RepO S w (eachT F d) e w' ∧ Below w.heap.size w w')
include hPw
include HF in
theorem repl_text (S : Nat → Prop) (t : L8) (ks : List L8) (ds : List Nd) (hq : Q t) (c0 c1 c2 c3 : Value) (w : World) (hw : Pw w) (hS : Old S w) (hd : NdC S w (.mk 1 t ks ds) c0 c1 c2 c3) :
  Calls Tryz.prog 35 #[.agg #[c0, c1, c2, c3], .func (.func 19) #[] #[.pointer p]] w (fun e w' => RepO S w (eachT F (.mk 1 t ks ds)) e w' ∧ Below w.heap.size w w') := by
 have eg : ∀ args w, (callFunc 19 args).run Tryz.prog w = .ok (.enter 19 args) w := enters_of Tryz.func19 (by kernel_rfl) rfl
 rw [show eachT F (.mk 1 t ks ds) = textR (F t) by rw [eachT, if_pos rfl]]
 have hR := RX.make hS hd
 have hdA := hd.all fun b hb => hS b hb
 obtain ⟨rfl, rfl, -, A, cap, rfl, -⟩ := hdA.parts
 obtain ⟨k9, s9, a, n, c9, A9, m9, q9, -, -, rfl, h99⟩ := hdA.shape
 obtain ⟨T, hT⟩ : ∃ T, ba t = T := ⟨_, rfl⟩
 have hTt : T.data.toList = t := by rw [← hT, ba_data]
 rw [hT] at hR hd ⊢
 obtain ⟨m, hm⟩ : ∃ m, ds.length = m := ⟨_, rfl⟩
 rw [hm] at hR hd ⊢
 have hcl := HF T _ (hPw _ _ hw hR.2.1) (by rw [hTt]; exact hq)
 rw [hTt] at hcl
 have HR := hid hR
 clear hd hdA hS hR hT hTt hq hw HF hPw hm
 obtain ⟨x0, x1, x2, x3⟩ := HR.out.2.2.1.cells
 cases hF : F t with
 | err n0 =>
  rw [hF] at hcl
  simp only [TextO] at hcl
  clear hF
  go_enter Tryz.func35, Tryz.ntmps35
  go_wp2_with (go_at_fn 19; refine hcl.mono ?_; rintro e w2 ⟨⟨hn0, q0, rfl⟩, hgr⟩; have HN0 := hid hn0; have p1 : (n0 != 0) = true := bne_iff_ne.2 hn0; have HR2 := hid (HR.out.go hgr); obtain ⟨z0, z1, z2, z3⟩ := HR2.out.2.2.2.1.cells; obtain ⟨f0, f1, f2, f3⟩ := HR2.out.2.2.2.1.frozen; clear hgr hn0)
  have hbb : Below w.heap.size w2 (put4 w2 (w.heap.size + 1) (.int .i64 0) (.string ⟨#[]⟩) (.slice none 0 0) (.slice none 0 0)) := below_put4 (Below.refl _ _) (by omega) _ _ _ _
  refine bodyPost_ret (v := .tuple #[.agg #[.int .i64 0, .string ⟨#[]⟩, .slice none 0 0, .slice none 0 0], .int .i64 n0]) (by simp [results, Tryz.results35, go_sem, z0, z1, z2, z3]) rfl ⟨⟨HN0.out, rfl⟩, HR2.out.2.1.trans hbb⟩
 | ok x =>
  rw [hF] at hcl
  simp only [TextO] at hcl
  clear hF
  obtain ⟨X, hX⟩ : ∃ X, ba x = X := ⟨_, rfl⟩
  have HX := hid hX
  rw [hX] at hcl
  clear hX
  go_enter Tryz.func35, Tryz.ntmps35
  go_wp2_with (first | (go_at_fn 19; refine hcl.mono ?_; rintro e w2 ⟨rfl, hgr⟩; have HR2 := hid (HR.out.go hgr); clear hgr) | (go_at_call 48; refine (Text_any _ _).mono ?_; rintro e w3 ⟨rfl, hb3⟩; have HR3 := hid (HR2.out.go hb3); obtain ⟨z0, z1, z2, z3⟩ := HR3.out.2.2.2.1.cells; obtain ⟨f0, f1, f2, f3⟩ := HR3.out.2.2.2.1.frozen; clear hb3))
  have hbb : Below w.heap.size w3 (put4 w3 (w.heap.size + 1) (.int .i64 1) (.string X) (.slice none 0 0) (.slice none 0 0)) := below_put4 (Below.refl _ _) (by omega) _ _ _ _
  refine bodyPost_ret (v := .tuple #[.agg #[.int .i64 1, .string X, .slice none 0 0, .slice none 0 0], .int .i64 0]) (by simp [results, Tryz.results35, go_sem, z0, z1, z2, z3]) rfl ⟨⟨_, _, _, _, rfl, ?_⟩, HR3.out.2.1.trans hbb⟩
  have := ndx_text (Now S w (put4 w3 (w.heap.size + 1) (.int .i64 1) (.string X) (.slice none 0 0) (.slice none 0 0))) (put4 w3 (w.heap.size + 1) (.int .i64 1) (.string X) (.slice none 0 0) (.slice none 0 0)) X
  rw [show X.data.toList = x by rw [← HX.out, ba_data]] at this
  exact this
theorem repl_kids (S : Nat → Prop) (N : Nat) (ih : RepOf Pw Q F p S N) (k : Int) (hk : k ≠ 1) (t : L8) (ks : List L8) (ds : List Nd) (hN : cntL ds ≤ N) (hbig : cntL ds ≤ 99999) (hq : ∀ x ∈ textsL ds, Q x)
  (c0 c1 c2 c3 : Value) (w : World) (hw : Pw w) (hS : Old S w) (hd : NdC S w (.mk k t ks ds) c0 c1 c2 c3) :
  Calls Tryz.prog 35 #[.agg #[c0, c1, c2, c3], .func (.func 19) #[] #[.pointer p]] w (fun e w' => RepO S w (kidsR k ks (eachL F ds)) e w' ∧ Below w.heap.size w w') := by
 have hR := RX.make hS hd
 have hdA := hd.all fun b hb => hS b hb
 have hlen := cntL_len ds
 obtain ⟨rfl, rfl, -, A, cap, rfl, hcap, hcm, -, -⟩ := hdA.parts
 obtain ⟨k9, s9, a, m, c9, A9, m9, q9, -, -, rfl, h99⟩ := hdA.shape
 obtain ⟨T, hT⟩ : ∃ T, ba t = T := ⟨_, rfl⟩
 rw [hT] at hR hd ⊢
 obtain ⟨n, hn⟩ : ∃ n, ds.length = n := ⟨_, rfl⟩
 have HN := hid hn
 rw [hn] at hR hcap hd ⊢
 have hcl := CloneN_any S (.slice A n cap) ds _ (fun b hb => (hS.go hR.2.1.size) b hb) hR.2.2.2.2.kdS (by omega)
 have HR := hid hR
 have HP := hid (And.intro hw hPw)
 have HQ := hid hq
 have HCN := hid (And.intro hN hbig)
 have HIH := hid ih
 have HK := hid hk
 have hn63 : n ≤ 100000 := by omega
 have p1 : (k == 1) = false := by simpa using hk
 obtain ⟨x0, x1, x2, x3⟩ := HR.out.2.2.1.cells
 clear hR hdA hlen h99 hT hn hS hd hN hbig ih hk hq hw hPw
 unfold maxLen at hcm
 go_enter Tryz.func35, Tryz.ntmps35
 go_wp2_with fail
 refine hcl.mono ?_
 rintro e w1 ⟨v, rfl, ⟨qs, hko⟩, hb1⟩
 have hr1 := HR.out.far (hb1.mono HR.out.size)
 have HLS : Hid (LS S w w1 (.mk k t ks ds) (.int .i64 k) (.string T) (.slice a m c9) (.slice A n cap) v ([] ++ ds.drop 0)) := hid ⟨hr1, qs, (hko.low HR.out.size).keep (fun b hb => ⟨.inl hb, rfl⟩) fun _ _ => rfl⟩
 clear hr1 hko hb1 hcl x0 x1 x2 x3 HR
 obtain ⟨x0, x1, x2, x3⟩ := HLS.out.1.2.2.1.cells
 go_wp2
 go_loopw [9, 10, 11, 12, 35] (fun s9 s10 s11 s12 si wr => ∃ (j : Nat) (r : List Nd), j ≤ n ∧ si = .int .i64 (j : Int) ∧ Hid (LS S w wr (.mk k t ks ds) (.int .i64 k) (.string T) (.slice a m c9) (.slice A n cap) v (r ++ ds.drop j)) ∧ Hid (r.length = j ∧ eachL F (ds.take j) = .ok r)) (fun _ _ _ _ si _ => n - (intOf si).toNat)
 case atStart => exact ⟨0, [], Nat.zero_le _, rfl, HLS, hid ⟨rfl, by rw [List.take_zero, eachL]⟩⟩
 case round =>
  clear HLS x0 x1 x2 x3
  obtain ⟨j, r, hj, rfl, HLS, HE⟩ := hrel
  obtain ⟨x0, x1, x2, x3⟩ := HLS.out.1.2.2.1.cells
  by_cases hlt : j < n
  ·have hjl : j < ds.length := by rw [HN.out]; exact hlt
   have hjz : (j : Int) < (n : Int) := by omega
   obtain ⟨b, o, e0, e1, e2, e3, rfl, hb, y0, y1, y2, y3, hnd⟩ := HLS.out.1.2.2.2.2.kdS.kid j hjl
   obtain ⟨k1, s1, a1, n1, q1, A1, m1, r1, rfl, rfl, rfl, rfl⟩ := NdC.cellsOk hnd
   have hal : Below wr.heap.size wr (wr.alloc (.cells #[.int .i64 k1, .string s1, .slice a1 n1 q1, .slice A1 m1 r1] 25)) := (Below.refl _ _).alloc (Nat.le_refl _) _
   have HL1 := hid (HLS.out.go hal)
   have hOr : Old S wr := HLS.out.1.1.go (by have := HLS.out.1.size; omega)
   have hck : cntT (ds[j]'hjl) ≤ cntL ds := cntL_mem (List.getElem_mem hjl)
   have hR := HIH.out (ds[j]'hjl) (Nat.le_trans hck HCN.out.1) (by have := HCN.out.2; omega) (fun x hx => HQ.out x (textsL_kid (List.getElem_mem hjl) hx)) _ _ _ _ _ (HP.out.2 _ _ HP.out.1 HL1.out.1.2.1) (hOr.go hal.size) (NdC.keep (fun b hb => ⟨hb, hal.block b (hOr b hb)⟩) _ hnd)
   have HSZ := hid hal.size
   clear hnd hal hOr hck
   cases hE : eachT F (ds[j]'hjl) with
   | ok d' =>
    rw [hE] at hR
    simp only [RepO] at hR
    have HEJ := hid hE
    clear hE
    go_wp2_with fail
    refine hR.mono ?_
    rintro e w2 ⟨⟨r0, r1', r2, r3, rfl, hrn⟩, hgr⟩
    have HL2 := hid (HL1.out.go hgr)
    clear hR
    obtain ⟨k2, s2, a2, n2, q2, A2, m2, r2', rfl, rfl, rfl, rfl⟩ := NdC.cellsOk hrn
    have hal3 : Below w2.heap.size w2 (w2.alloc (.cells #[.int .i64 k2, .string s2, .slice a2 n2 q2, .slice A2 m2 r2'] 25)) := (Below.refl _ _).alloc (Nat.le_refl _) _
    have HL3 := hid (HL2.out.go hal3)
    have hhl : (r ++ ds.drop j).length = n := by rw [half_len (Nat.le_of_lt hjl) HE.out.1, HN.out]
    have hjh : j < (r ++ ds.drop j).length := by rw [hhl]; exact hlt
    obtain ⟨h, cv, hv, hBh, hhs, hcv, hcmv⟩ := HL3.out.2.choose_spec.form (Nat.lt_of_le_of_lt (Nat.zero_le _) hjh)
    rw [hhl] at hv
    subst hv
    obtain ⟨⟨f0, f1, f2, f3, g0, g1, g2, g3, -⟩, fz0, fz1, fz2, fz3⟩ := HL3.out.2.choose_spec.at_ hhl j hjh
    have hhw : h < wr.heap.size := (HLS.out.2.choose_spec.1.lt h rfl).2
    have HLP := hid (HL3.out.put hhl j hjh d' ⟨.int .i64 k2, .string s2, .slice a2 n2 q2, .slice A2 m2 r2'⟩ _ (Nat.lt_of_lt_of_le hhw HSZ.out) (Nat.le_trans HLS.out.1.size HSZ.out) (NdC.keep (fun b hb => by
     rcases hb with hb | ⟨b1, b2⟩
     ·have hb2 := HL2.out.1.1 b hb
      have := HL2.out.1.size
      exact ⟨.inl hb, hal3.block b (by omega)⟩
     ·exact ⟨.inr ⟨b1, Nat.lt_of_lt_of_le b2 hal3.size⟩, hal3.block b b2⟩) _ hrn))
    rw [half_set hjl HE.out.1] at HLP
    have HEN : Hid ((r ++ [d']).length = j + 1 ∧ eachL F (ds.take (j + 1)) = .ok (r ++ [d'])) := hid ⟨by rw [List.length_append, HE.out.1]; rfl, by rw [List.take_succ_eq_append_getElem hjl]; exact eachL_snoc HEJ.out _ _ HE.out.2⟩
    clear hrn hal3 hjh hhl hBh hhs hcmv hhw HL2 HL1 HLS hgr
    go_wp2_with fail
    go_roundw
    case measure => simp [intOf]; omega
    case rel => exact ⟨j + 1, r ++ [d'], by omega, by go_num, HLP, HEN⟩
   | err n0 =>
    rw [hE] at hR
    simp only [RepO] at hR
    have HEJ := hid hE
    clear hE
    go_wp2_with fail
    refine hR.mono ?_
    rintro e w2 ⟨⟨hn0, rfl⟩, hgr⟩
    have HL2 := hid (HL1.out.go hgr)
    clear hR
    have HN0 := hid hn0
    have p2 : (n0 != 0) = true := bne_iff_ne.2 hn0
    have hal3 : Below w2.heap.size w2 (w2.alloc (.cells #[.int .i64 0, .string ⟨#[]⟩, .slice none 0 0, .slice none 0 0] 25)) := (Below.refl _ _).alloc (Nat.le_refl _) _
    have HL3 := hid (HL2.out.go hal3)
    obtain ⟨z0, z1, z2, z3⟩ := HL3.out.1.2.2.2.1.cells
    obtain ⟨fz0, fz1, fz2, fz3⟩ := HL3.out.1.2.2.2.1.frozen
    have HST : Hid (eachL F ds = .err n0) := hid (by
     have := eachL_stop HEJ.out (ds.drop (j + 1)) _ _ HE.out.2
     rwa [← List.drop_eq_getElem_cons hjl, List.take_append_drop] at this)
    clear hal3 HL2 HL1 HLS hgr hn0
    go_wp2
    try simp only [Exit.inBlock, Exit.then]
    have hbb : Below w.heap.size (w2.alloc (.cells #[.int .i64 0, .string ⟨#[]⟩, .slice none 0 0, .slice none 0 0] 25)) (put4 (w2.alloc (.cells #[.int .i64 0, .string ⟨#[]⟩, .slice none 0 0, .slice none 0 0] 25)) (w.heap.size + 1) (.int .i64 0) (.string ⟨#[]⟩) (.slice none 0 0) (.slice none 0 0)) := below_put4 (Below.refl _ _) (by omega) _ _ _ _
    refine bodyPost_ret (v := .tuple #[.agg #[.int .i64 0, .string ⟨#[]⟩, .slice none 0 0, .slice none 0 0], .int .i64 n0]) (by simp [results, Tryz.results35, go_sem, z0, z1, z2, z3]) rfl ⟨?_, HL3.out.1.2.1.trans hbb⟩
    rw [HST.out]
    exact ⟨HN0.out, rfl⟩
  ·obtain rfl : j = n := by omega
   have HM : Hid (r ++ ds.drop j = r ∧ eachL F ds = .ok r) := hid ⟨by rw [List.drop_of_length_le (by rw [HN.out]; exact Nat.le_refl _), List.append_nil], by have := HE.out.2; rwa [List.take_of_length_le (by rw [HN.out]; exact Nat.le_refl _)] at this⟩
   rw [HM.out.1] at HLS
   have HD := hid HLS.out.done
   obtain ⟨z0, z1, z2, z3⟩ := HLS.out.1.2.2.2.1.cells
   obtain ⟨fz0, fz1, fz2, fz3⟩ := HLS.out.1.2.2.2.1.frozen
   obtain ⟨av, nv, cv, rfl⟩ : ∃ av nv cv, v = .slice av nv cv := by
    obtain ⟨A', cap', h1, -⟩ := HLS.out.2.choose_spec.kdS (T := fun _ => True) (fun _ _ => trivial) (fun _ _ => trivial)
    exact ⟨_, _, _, h1⟩
   go_wp2
   refine bodyPost_ret (v := .tuple #[.agg #[.int .i64 k, .string ⟨#[]⟩, .slice a m c9, .slice av nv cv], .int .i64 0]) (by simp [results, Tryz.results35, go_sem, z0, z1, z2, z3]) rfl ⟨?_, HD.out.1⟩
   rw [HM.out.2]
   exact ⟨_, _, _, _, rfl, HD.out.2⟩
include HF in
theorem repl_any (S : Nat → Prop) (N : Nat) : RepOf Pw Q F p S N := by
 induction N with
 | zero => intro d h; have := cntT_pos d; omega
 | succ N ih =>
  intro d hN hbig hq c0 c1 c2 c3 w hw hS hd
  cases d with
  | mk k t ks ds =>
   by_cases hk : k = 1
   ·subst hk
    exact repl_text Pw hPw Q F p HF S t ks ds (hq t (by rw [textsT, if_pos rfl]; exact List.mem_append.2 (.inl (List.mem_singleton.2 rfl)))) c0 c1 c2 c3 w hw hS hd
   ·rw [cntT] at hN hbig
    rw [eachT_kids hk]
    exact repl_kids Pw hPw Q F p S N ih k hk t ks ds (by omega) (by omega) (fun x hx => hq x (by rw [textsT, if_neg hk]; exact hx)) c0 c1 c2 c3 w hw hS hd
variable (HWalk : ∀ (d : Nd) (c0 c1 c2 c3 : Value) (w : World), Fine d → cntT d ≤ 65536 → NdW w d c0 c1 c2 c3 → Calls Tryz.prog 33 #[.agg #[c0, c1, c2, c3]] w fun e w' => e = .returned (.bool true) ∧ Below w.heap.size w w')
include HF HWalk
theorem Each_any (S : Nat → Prop) (d : Nd) (hf : Fine d) (hc : cntT d ≤ 65536) (hq : ∀ x ∈ textsT d, Q x) (c0 c1 c2 c3 : Value) (w : World) (hw : Pw w) (hS : Old S w) (hd : NdC S w d c0 c1 c2 c3) :
  Calls Tryz.prog 18 #[.agg #[c0, c1, c2, c3], .func (.func 19) #[] #[.pointer p]] w (fun e w' => RepO S w (eachT F d) e w' ∧ Below w.heap.size w w') := by
 have hR := RX.make hS hd
 obtain ⟨k, s, a, n, q, A, m, r, rfl, rfl, rfl, rfl⟩ := NdC.cellsOk hd
 have hal := hR.2.1
 have hwk := HWalk d _ _ _ _ _ hf hc ((hd.all fun b hb => hS b hb : NdW w d _ _ _ _).below hal)
 have HR := hid hR
 have HREP := hid (fun W (hW : RX S w W d (.int .i64 k) (.string s) (.slice a n q) (.slice A m r)) => repl_any Pw hPw Q F p HF S (cntT d) d (Nat.le_refl _) (by omega) hq _ _ _ _ W (hPw _ _ hw hW.2.1) (hW.1.go (by have := hW.size; omega)) hW.2.2.2.2)
 obtain ⟨x0, x1, x2, x3⟩ := HR.out.2.2.1.cells
 clear hR hd hS hf hc hq hal hw hPw HF HWalk
 have hnil : ∀ W, (binOp .eql 45 (.func (.func 19) #[] #[.pointer p]) .nilFunc).run Tryz.prog W = .ok (.bool false) W := fun W => by kernel_rfl
 go_enter Tryz.func18, Tryz.ntmps18
 go_wp2_with fail
 refine hwk.mono ?_
 rintro e w2 ⟨rfl, hb2⟩
 have HR2 := hid (HR.out.go hb2)
 have hrep := HREP.out w2 HR2.out
 clear hwk hb2 HREP x0 x1 x2 x3 HR
 obtain ⟨x0, x1, x2, x3⟩ := HR2.out.2.2.1.cells
 cases hE : eachT F d with
 | ok d' =>
  rw [hE] at hrep
  simp only [RepO] at hrep
  have HEE := hid hE
  clear hE
  go_wp2_with fail
  refine hrep.mono ?_
  rintro e w3 ⟨⟨r0, r1, r2, r3, rfl, hrn⟩, hgr⟩
  have HR3 := hid (HR2.out.go hgr)
  have HSZ := hid HR2.out.size
  obtain ⟨z0, z1, z2, z3⟩ := HR3.out.2.2.2.1.cells
  obtain ⟨f0, f1, f2, f3⟩ := HR3.out.2.2.2.1.frozen
  obtain ⟨k2, s2, a2, n2, q2, A2, m2, r2', rfl, rfl, rfl, rfl⟩ := NdC.cellsOk hrn
  have HX := hid hrn
  clear hrn hgr hrep
  go_wp2
  have hbb : Below (w.heap.size + 1) w3 (put4 w3 (w.heap.size + 1) (.int .i64 k2) (.string s2) (.slice a2 n2 q2) (.slice A2 m2 r2')) := below_put4 (Below.refl _ _) (Nat.le_refl _) _ _ _ _
  refine bodyPost_ret (v := .tuple #[.agg #[.int .i64 k2, .string s2, .slice a2 n2 q2, .slice A2 m2 r2'], .int .i64 0]) (by simp [results, Tryz.results18, go_sem, z0, z1, z2, z3]) rfl ⟨?_, HR3.out.2.1.trans (hbb.mono (by omega))⟩
  rw [HEE.out]
  refine ⟨_, _, _, _, rfl, NdC.keep (fun b hb => ?_) _ HX.out⟩
  rcases hb with hb | ⟨b1, b2⟩
  ·exact ⟨.inl hb, hbb.block b (by have := HR3.out.1 b hb; omega)⟩
  ·have hs2 := HSZ.out
   exact ⟨.inr ⟨by omega, Nat.lt_of_lt_of_le b2 hbb.size⟩, put4_oth b (by omega) _ _ _ _⟩
 | err n0 =>
  rw [hE] at hrep
  simp only [RepO] at hrep
  have HEE := hid hE
  clear hE
  go_wp2_with fail
  refine hrep.mono ?_
  rintro e w3 ⟨⟨hn0, rfl⟩, hgr⟩
  have HN0 := hid hn0
  have HR3 := hid (HR2.out.go hgr)
  obtain ⟨z0, z1, z2, z3⟩ := HR3.out.2.2.2.1.cells
  obtain ⟨f0, f1, f2, f3⟩ := HR3.out.2.2.2.1.frozen
  clear hgr hn0 hrep
  go_wp2
  have hbb : Below (w.heap.size + 1) w3 (put4 w3 (w.heap.size + 1) (.int .i64 0) (.string ⟨#[]⟩) (.slice none 0 0) (.slice none 0 0)) := below_put4 (Below.refl _ _) (Nat.le_refl _) _ _ _ _
  refine bodyPost_ret (v := .tuple #[.agg #[.int .i64 0, .string ⟨#[]⟩, .slice none 0 0, .slice none 0 0], .int .i64 n0]) (by simp [results, Tryz.results18, go_sem, z0, z1, z2, z3]) rfl ⟨?_, HR3.out.2.1.trans (hbb.mono (by omega))⟩
  rw [HEE.out]
  exact ⟨HN0.out, rfl⟩
end
end Ech
end Go.Proofs.YtkcilmmaggmmoaaGreatDoor
