/- ColWalk -/
import Derived.Test.YtkcilmmaggmmoaaGreatDoorNT18
import Derived.Test.YtkcilmmaggmmoaaGreatDoorNT19
set_option linter.unusedVariables false
set_option linter.unusedSimpArgs false
set_option maxRecDepth 100000
set_option maxHeartbeats 16000000
open Go.Lib (hid)
namespace Go.Proofs.YtkcilmmaggmmoaaGreatDoor
namespace Ech
end Ech
namespace N8
end N8
namespace Nw
end Nw
end Go.Proofs.YtkcilmmaggmmoaaGreatDoor
namespace Go.Proofs.YtkcilmmaggmmoaaGreatDoor
open Go.RowKit Go.Sort
open Nw N8 Go.ChangeShapes Go.WideShapes
namespace Col
open Ech (put4 put4_oth put4_size below_put4 put4at_size ndx_text)
section
variable (B0 g : Nat) (PA : List L8 → World → Prop) (hPc : ∀ a W, PA a W → Pc g W ∧ B0 ≤ g)
variable (hPA : ∀ a W W', PA a W → Below B0 W W' → (∀ b, Cl g W b → W'.heap[b]? = W.heap[b]?) → PA a W')
variable (Q : L8 → Prop) (F : L8 → List L8)
variable (HF : ∀ (s : ByteArray) (a : List L8) (W : World), PA a W → Q s.data.toList → a.length + (F s.data.toList).length ≤ 1000000 →
 Calls Tryz.prog 21 #[.string s, .pointer (some ⟨g, 0, none⟩)] W (fun e W' => e = .returned (.tuple #[.string s, .int .i64 0]) ∧ PA (a ++ F s.data.toList) W' ∧ Kx g W W'))
include hPc hPA in
theorem pa_fresh {a : List L8} {W W' : World} (h : PA a W) (hb : Below W.heap.size W W') : PA a W' := by
 obtain ⟨hp, hg⟩ := hPc a W h
 exact hPA a W W' h (hb.mono (by have := hp.lt; omega)) fun b hc => hb.block b (hp b hc)
include hPA in
theorem pa_put {a : List L8} {W : World} {k : Nat} (h : PA a W) (ht : Tm g W k) (hB : B0 ≤ k) (x y z u : Value) : PA a (put4 W k x y z u) :=
 hPA a W _ h (below_put4 (Below.refl _ _) hB _ _ _ _) fun b hc => put4_oth b (fun e => ht.2 (by rw [← e]; exact hc)) _ _ _ _
include hPA in
theorem pa_puta {a : List L8} {W : World} {k : Nat} (h : PA a W) (ht : Tm g W k) (hB : B0 ≤ k) (o : Nat) (x y z u : Value) : PA a (put4at W k o x y z u) :=
 hPA a W _ h (below_put4at (Below.refl _ _) hB _ _ _ _) fun b hc => put4at_oth b (fun e => ht.2 (by rw [← e]; exact hc)) _ _ _ _
def RepOf (S : Nat → Prop) (N : Nat) : Prop :=
 ∀ (d : Nd), cntT d ≤ N → cntT d ≤ 100000 → (∀ x ∈ visT d, Q x) → ∀ (a : List L8), a.length + ((visT d).flatMap F).length ≤ 1000000 → ∀ (c0 c1 c2 c3 : Value) (w : World), PA a w → Old S g w → NdC S w d c0 c1 c2 c3 →
  Calls Tryz.prog 35 #[.agg #[c0, c1, c2, c3], .func (.func 21) #[] #[.pointer (some ⟨g, 0, none⟩)]] w (fun e w' =>
   (∃ d' c0 c1 c2 c3, e = .returned (.tuple #[.agg #[c0, c1, c2, c3], .int .i64 0]) ∧ NdC (Now S g w w') w' d' c0 c1 c2 c3) ∧ PA (a ++ (visT d).flatMap F) w' ∧ Kx g w w')
include hPc hPA
include HF in
theorem repl_text (S : Nat → Prop) (t : L8) (ks : List L8) (ds : List Nd) (hq : Q t) (a : List L8) (ha : a.length + (F t).length ≤ 1000000) (c0 c1 c2 c3 : Value) (w : World) (hw : PA a w) (hS : Old S g w) (hd : NdC S w (.mk 1 t ks ds) c0 c1 c2 c3) :
  Calls Tryz.prog 35 #[.agg #[c0, c1, c2, c3], .func (.func 21) #[] #[.pointer (some ⟨g, 0, none⟩)]] w (fun e w' =>
   (∃ d' c0 c1 c2 c3, e = .returned (.tuple #[.agg #[c0, c1, c2, c3], .int .i64 0]) ∧ NdC (Now S g w w') w' d' c0 c1 c2 c3) ∧ PA (a ++ F t) w' ∧ Kx g w w') := by
 have eg : ∀ args w, (callFunc 21 args).run Tryz.prog w = .ok (.enter 21 args) w := enters_of Tryz.func21 (by kernel_rfl) rfl
 obtain ⟨hpc, hBg⟩ := hPc a w hw
 have hglt := hpc.lt
 have hR := RX.make hS hpc hd
 have hdA := hd.all fun b hb => (hS b hb).1
 obtain ⟨rfl, rfl, -, A, cap, rfl, -⟩ := hdA.parts
 obtain ⟨k9, s9, a9, n, c9, A9, m9, q9, -, -, rfl, h99⟩ := hdA.shape
 obtain ⟨T, hT⟩ : ∃ T, ba t = T := ⟨_, rfl⟩
 have hTt : T.data.toList = t := by rw [← hT, ba_data]
 rw [hT] at hR hd ⊢
 obtain ⟨m, hm⟩ : ∃ m, ds.length = m := ⟨_, rfl⟩
 rw [hm] at hR hd ⊢
 have hal1 : Below w.heap.size w (w.alloc (.cells #[.int .i64 1, .string T, .slice a9 n c9, .slice A m cap] 25)) := (Below.refl _ _).alloc (Nat.le_refl _) _
 have hal2 : Below w.heap.size w ((w.alloc (.cells #[.int .i64 1, .string T, .slice a9 n c9, .slice A m cap] 25)).alloc (.cells #[.int .i64 0, .string ⟨#[]⟩, .slice none 0 0, .slice none 0 0] 25)) := hal1.alloc (by simp) _
 have hcl := HF T a _ (pa_fresh B0 g PA hPc hPA hw hal2) (by rw [hTt]; exact hq) (by rw [hTt]; exact ha)
 rw [hTt] at hcl
 have HR := hid hR
 have HFR := hid (fun W W' a (h : PA a W) (hb : Below W.heap.size W W') => pa_fresh B0 g PA hPc hPA (a := a) h hb)
 have HPU := hid (fun W (h : PA (a ++ F t) W) (h2 : Tm g W (w.heap.size + 1)) x y z u => pa_put B0 g PA hPA (W := W) h h2 (by omega) x y z u)
 obtain ⟨R, hRR⟩ : ∃ R, a ++ F t = R := ⟨_, rfl⟩
 rw [hRR] at hcl HPU ⊢
 have HGL : Hid (g < w.heap.size) := hid hglt
 clear hd hdA hS hR hT hTt hq hw HF hPA hPc hm ha hal1 hal2 hRR hpc hBg hglt
 obtain ⟨x0, x1, x2, x3⟩ := HR.out.2.2.2.1.cells
 go_enter Tryz.func35, Tryz.ntmps35
 go_wp2_with (first | (go_at_fn 21; refine hcl.mono ?_; rintro e w2 ⟨rfl, hpa2, hgr⟩; have HR2 := hid (HR.out.go hgr); have HP2 := hid hpa2; clear hgr hpa2) | (go_at_call 48; refine (Ech.Text_any _ _).mono ?_; rintro e w3 ⟨rfl, hb3⟩; have HR3 := hid (HR2.out.go ((Kx.refl g w2).below (Nat.lt_of_lt_of_le HGL.out (by have := HR2.out.size; omega)) hb3)); have HP3 := hid (HFR.out _ _ _ HP2.out hb3); obtain ⟨z0, z1, z2, z3⟩ := HR3.out.2.2.2.2.1.cells; obtain ⟨f0, f1, f2, f3⟩ := HR3.out.2.2.2.2.1.frozen; clear hb3))
 have hbb : Below w.heap.size w3 (put4 w3 (w.heap.size + 1) (.int .i64 1) (.string T) (.slice none 0 0) (.slice none 0 0)) := below_put4 (Below.refl _ _) (by omega) _ _ _ _
 refine bodyPost_ret (v := .tuple #[.agg #[.int .i64 1, .string T, .slice none 0 0, .slice none 0 0], .int .i64 0]) (by simp [results, Tryz.results35, go_sem, z0, z1, z2, z3]) rfl ⟨⟨_, _, _, _, _, rfl, Ech.ndx_text _ _ T⟩, HPU.out w3 HP3.out HR3.out.2.2.2.2.2.2.1 _ _ _ _, HR3.out.2.2.1.below HGL.out hbb⟩
theorem repl_kids (S : Nat → Prop) (N : Nat) (ih : RepOf g PA Q F S N) (k : Int) (hk : k ≠ 1) (t : L8) (ks : List L8) (ds : List Nd) (hN : cntL ds ≤ N) (hbig : cntL ds ≤ 99999) (hq : ∀ x ∈ visL ds, Q x)
  (a : List L8) (ha : a.length + ((visL ds).flatMap F).length ≤ 1000000) (c0 c1 c2 c3 : Value) (w : World) (hw : PA a w) (hS : Old S g w) (hd : NdC S w (.mk k t ks ds) c0 c1 c2 c3) :
  Calls Tryz.prog 35 #[.agg #[c0, c1, c2, c3], .func (.func 21) #[] #[.pointer (some ⟨g, 0, none⟩)]] w (fun e w' =>
   (∃ d' c0 c1 c2 c3, e = .returned (.tuple #[.agg #[c0, c1, c2, c3], .int .i64 0]) ∧ NdC (Now S g w w') w' d' c0 c1 c2 c3) ∧ PA (a ++ (visL ds).flatMap F) w' ∧ Kx g w w') := by
 obtain ⟨hpc, hBg⟩ := hPc a w hw
 have hglt := hpc.lt
 have hR := RX.make hS hpc hd
 have hdA := hd.all fun b hb => (hS b hb).1
 have hlen := cntL_len ds
 obtain ⟨rfl, rfl, -, A, cap, rfl, hcap, hcm, -, -⟩ := hdA.parts
 obtain ⟨k9, s9, a9, m, c9, A9, m9, q9, -, -, rfl, h99⟩ := hdA.shape
 obtain ⟨T, hT⟩ : ∃ T, ba t = T := ⟨_, rfl⟩
 rw [hT] at hR hd ⊢
 obtain ⟨n, hn⟩ : ∃ n, ds.length = n := ⟨_, rfl⟩
 have HN := hid hn
 rw [hn] at hR hcap hd ⊢
 have hcl := CloneN_any S (.slice A n cap) ds _ (fun b hb => (hS.go hR.2.2.1 b hb).1) hR.2.2.2.2.2.2.2.kdS (by omega)
 have HR := hid hR
 have HFR := hid (fun W W' a (h : PA a W) (hb : Below W.heap.size W W') => pa_fresh B0 g PA hPc hPA (a := a) h hb)
 have HPU := hid (fun W (h : PA (a ++ (visL ds).flatMap F) W) (h2 : Tm g W (w.heap.size + 1)) x y z u => pa_put B0 g PA hPA (W := W) h h2 (by omega) x y z u)
 have HPUA := hid (fun W a (h : PA a W) k (h2 : Tm g W k) (h3 : w.heap.size ≤ k) o x y z u => pa_puta B0 g PA hPA (W := W) (a := a) h h2 (by omega) o x y z u)
 have HW0 : Hid (PA (a ++ (visL (ds.take 0)).flatMap F) ((w.alloc (.cells #[.int .i64 k, .string T, .slice a9 m c9, .slice A n cap] 25)).alloc (.cells #[.int .i64 0, .string ⟨#[]⟩, .slice none 0 0, .slice none 0 0] 25))) := hid (by
  rw [List.take_zero, visL, List.flatMap_nil, List.append_nil]
  exact HFR.out _ _ _ (HFR.out _ _ _ hw ((Below.refl _ _).alloc (Nat.le_refl _) _)) ((Below.refl _ _).alloc (Nat.le_refl _) _))
 have HQ := hid hq
 have HA := hid ha
 have HCN := hid (And.intro hN hbig)
 have HIH := hid ih
 have HK := hid hk
 have hn63 : n ≤ 100000 := by omega
 have p1 : (k == 1) = false := by simpa using hk
 have HGL : Hid (g < w.heap.size) := hid hglt
 obtain ⟨x0, x1, x2, x3⟩ := HR.out.2.2.2.1.cells
 clear hR hdA hlen h99 hT hn hS hd hN hbig ih hk hq hw hPA hPc ha hpc hBg hglt
 unfold maxLen at hcm
 go_enter Tryz.func35, Tryz.ntmps35
 go_wp2_with fail
 refine hcl.mono ?_
 rintro e w1 ⟨v, rfl, ⟨qs, hko⟩, hb1⟩
 have hr1 := HR.out.far (hb1.mono HR.out.size)
 have HLS : Hid (LS S g w w1 (.mk k t ks ds) (.int .i64 k) (.string T) (.slice a9 m c9) (.slice A n cap) v ([] ++ ds.drop 0)) := hid ⟨hr1, fun b hb => by
   have h9 := hko.1.lt b hb
   exact Tm.new (HR.out.2.1.go HR.out.2.2.1) hb1 h9.1 h9.2, qs, (hko.low HR.out.size).keep (fun b hb => ⟨.inl hb, rfl⟩) fun _ _ => rfl⟩
 have HP1 := hid (HFR.out _ _ _ HW0.out hb1)
 clear hr1 hko hb1 hcl x0 x1 x2 x3 HR HW0
 obtain ⟨x0, x1, x2, x3⟩ := HLS.out.1.2.2.2.1.cells
 go_wp2
 go_loopw [9, 10, 11, 12, 35] (fun s9 s10 s11 s12 si wr => ∃ (j : Nat) (r : List Nd), j ≤ n ∧ si = .int .i64 (j : Int) ∧ Hid (LS S g w wr (.mk k t ks ds) (.int .i64 k) (.string T) (.slice a9 m c9) (.slice A n cap) v (r ++ ds.drop j)) ∧ Hid (r.length = j) ∧ Hid (PA (a ++ (visL (ds.take j)).flatMap F) wr)) (fun _ _ _ _ si _ => n - (intOf si).toNat)
 case atStart => exact ⟨0, [], Nat.zero_le _, rfl, HLS, hid rfl, HP1⟩
 case round =>
  clear HLS x0 x1 x2 x3 HP1
  obtain ⟨j, r, hj, rfl, HLS, HE, HP⟩ := hrel
  obtain ⟨x0, x1, x2, x3⟩ := HLS.out.1.2.2.2.1.cells
  by_cases hlt : j < n
  ·have hjl : j < ds.length := by rw [HN.out]; exact hlt
   have hjz : (j : Int) < (n : Int) := by omega
   obtain ⟨b, o, e0, e1, e2, e3, rfl, hb, y0, y1, y2, y3, hnd⟩ := HLS.out.1.2.2.2.2.2.2.2.kdS.kid j hjl
   obtain ⟨k1, s1, a1, n1, q1, A1, m1, r1, rfl, rfl, rfl, rfl⟩ := NdC.cellsOk hnd
   have hal : Below wr.heap.size wr (wr.alloc (.cells #[.int .i64 k1, .string s1, .slice a1 n1 q1, .slice A1 m1 r1] 25)) := (Below.refl _ _).alloc (Nat.le_refl _) _
   have hgr : g < wr.heap.size := Nat.lt_of_lt_of_le HGL.out HLS.out.1.2.2.1.size
   have hkal := (Kx.refl g wr).below hgr hal
   have HL1 := hid (HLS.out.go hkal)
   have HP1 := hid (HFR.out _ _ _ HP.out hal)
   have hOr : Old S g wr := HLS.out.1.1.go HLS.out.1.2.2.1
   have hck : cntT (ds[j]'hjl) ≤ cntL ds := cntL_mem (List.getElem_mem hjl)
   have htk := visL_take hjl
   have hle : (a ++ (visL (ds.take j)).flatMap F).length + ((visT (ds[j]'hjl)).flatMap F).length ≤ 1000000 := by
    have h1 := HA.out
    have h2 : ((visL (ds.take (j + 1))).flatMap F).length ≤ ((visL ds).flatMap F).length := by
     have key : ∀ (l m : List Nd), visL (l ++ m) = visL l ++ visL m := by
      intro l m
      induction l with
      | nil => rw [List.nil_append, visL, List.nil_append]
      | cons x l ih => rw [List.cons_append, visL, visL, ih, List.append_assoc]
     conv => rhs; rw [← List.take_append_drop (j + 1) ds, key, List.flatMap_append, List.length_append]
     omega
    rw [htk, List.flatMap_append, List.length_append] at h2
    rw [List.length_append]
    omega
   have hR := HIH.out (ds[j]'hjl) (Nat.le_trans hck HCN.out.1) (by have := HCN.out.2; omega) (fun x hx => HQ.out x (vis_mem hjl hx)) _ hle _ _ _ _ _ HP1.out (hOr.go hkal) (NdC.keep (fun b hb => ⟨hb, hkal.block b (hOr b hb)⟩) _ hnd)
   rw [List.append_assoc, ← List.flatMap_append, ← htk] at hR
   have HSZ := hid hal.size
   clear hnd hal hOr hck hkal htk hle hgr HP
   go_wp2_with fail
   refine hR.mono ?_
   rintro e w2 ⟨⟨d', r0, r1', r2, r3, rfl, hrn⟩, hpa2, hgr⟩
   have HL2 := hid (HL1.out.go hgr)
   have HP2 := hid hpa2
   clear hR hpa2
   obtain ⟨k2, s2, a2, n2, q2, A2, m2, r2', rfl, rfl, rfl, rfl⟩ := NdC.cellsOk hrn
   have hal3 : Below w2.heap.size w2 (w2.alloc (.cells #[.int .i64 k2, .string s2, .slice a2 n2 q2, .slice A2 m2 r2'] 25)) := (Below.refl _ _).alloc (Nat.le_refl _) _
   have hg2 : g < w2.heap.size := Nat.lt_of_lt_of_le HGL.out HL2.out.1.2.2.1.size
   have hka3 := (Kx.refl g w2).below hg2 hal3
   have HL3 := hid (HL2.out.go hka3)
   have HP3 := hid (HFR.out _ _ _ HP2.out hal3)
   have hhl : (r ++ ds.drop j).length = n := by rw [half_len (Nat.le_of_lt hjl) HE.out, HN.out]
   have hjh : j < (r ++ ds.drop j).length := by rw [hhl]; exact hlt
   obtain ⟨h, cv, hv, hBh, hhs, hcv, hcmv⟩ := HL3.out.2.2.choose_spec.form (Nat.lt_of_le_of_lt (Nat.zero_le _) hjh)
   rw [hhl] at hv
   subst hv
   obtain ⟨⟨f0, f1, f2, f3, g0, g1, g2, g3, -⟩, fz0, fz1, fz2, fz3⟩ := HL3.out.2.2.choose_spec.at_ hhl j hjh
   have hhw : h < wr.heap.size := (HLS.out.2.2.choose_spec.1.lt h rfl).2
   have HLP := hid (HL3.out.put hhl j hjh d' ⟨.int .i64 k2, .string s2, .slice a2 n2 q2, .slice A2 m2 r2'⟩ _ (Nat.lt_of_lt_of_le hhw HSZ.out) (Nat.le_trans HLS.out.1.size HSZ.out) (NdC.keep (fun b hb => by
    rcases hb with hb | ⟨b1, b2⟩
    ·exact ⟨.inl hb, hal3.block b (HL2.out.1.2.2.1.tm (HL2.out.1.1 b hb)).1⟩
    ·exact ⟨.inr ⟨b1, hka3.tm b2⟩, hal3.block b b2.1⟩) _ hrn))
   rw [half_set hjl HE.out] at HLP
   have HPP := hid (HPUA.out _ _ HP3.out h (HL3.out.2.1 h rfl) (by omega) (j * 4) (.int .i64 k2) (.string s2) (.slice a2 n2 q2) (.slice A2 m2 r2'))
   have HEN : Hid ((r ++ [d']).length = j + 1) := hid (by rw [List.length_append, HE.out]; rfl)
   clear hrn hal3 hjh hhl hBh hhs hcmv hhw HL2 HL1 HLS hgr hg2 hka3 HP1 HP2 HP3
   go_wp2_with fail
   go_roundw
   case measure => simp [intOf]; omega
   case rel => exact ⟨j + 1, r ++ [d'], by omega, by go_num, HLP, HEN, HPP⟩
  ·obtain rfl : j = n := by omega
   have HM : Hid (r ++ ds.drop j = r ∧ ds.take j = ds) := hid ⟨by rw [List.drop_of_length_le (by rw [HN.out]; exact Nat.le_refl _), List.append_nil], by rw [List.take_of_length_le (by rw [HN.out]; exact Nat.le_refl _)]⟩
   rw [HM.out.1] at HLS
   rw [HM.out.2] at HP
   have HD := hid HLS.out.done
   have HPD := hid (HPU.out wr HP.out HLS.out.1.2.2.2.2.2.2.1)
   obtain ⟨z0, z1, z2, z3⟩ := HLS.out.1.2.2.2.2.1.cells
   obtain ⟨fz0, fz1, fz2, fz3⟩ := HLS.out.1.2.2.2.2.1.frozen
   obtain ⟨av, nv, cv, rfl⟩ : ∃ av nv cv, v = .slice av nv cv := by
    obtain ⟨A', cap', h1, -⟩ := HLS.out.2.2.choose_spec.kdS (T := fun _ => True) (fun _ _ => trivial) (fun _ _ => trivial)
    exact ⟨_, _, _, h1⟩
   go_wp2
   refine bodyPost_ret (v := .tuple #[.agg #[.int .i64 k, .string ⟨#[]⟩, .slice a9 m c9, .slice av nv cv], .int .i64 0]) (by simp [results, Tryz.results35, go_sem, z0, z1, z2, z3]) rfl ⟨⟨_, _, _, _, _, rfl, HD.out.2.2⟩, HPD.out _ _ _ _, HD.out.2.1⟩
include HF in
theorem repl_any (S : Nat → Prop) (N : Nat) : RepOf g PA Q F S N := by
 induction N with
 | zero => intro d h; have := cntT_pos d; omega
 | succ N ih =>
  intro d hN hbig hq a ha c0 c1 c2 c3 w hw hS hd
  cases d with
  | mk k t ks ds =>
   by_cases hk : k = 1
   ·subst hk
    have hv : visT (.mk 1 t ks ds) = [t] := by rw [visT, if_pos rfl]
    have hfm : ([t] : List L8).flatMap F = F t := by simp
    rw [hv] at hq ha ⊢
    rw [hfm] at ha ⊢
    exact repl_text B0 g PA hPc hPA Q F HF S t ks ds (hq t (List.mem_singleton.2 rfl)) a ha c0 c1 c2 c3 w hw hS hd
   ·have hv : visT (.mk k t ks ds) = visL ds := by rw [visT, if_neg hk]
    rw [cntT] at hN hbig
    rw [hv] at hq ha ⊢
    exact repl_kids B0 g PA hPc hPA Q F S N ih k hk t ks ds (by omega) (by omega) hq a ha c0 c1 c2 c3 w hw hS hd
variable (HWalk : ∀ (d : Nd) (c0 c1 c2 c3 : Value) (w : World), Fine d → cntT d ≤ 65536 → NdW w d c0 c1 c2 c3 → Calls Tryz.prog 33 #[.agg #[c0, c1, c2, c3]] w fun e w' => e = .returned (.bool true) ∧ Below w.heap.size w w')
include HF HWalk
theorem Each_col (S : Nat → Prop) (d : Nd) (hf : Fine d) (hc : cntT d ≤ 65536) (hq : ∀ x ∈ textsT d, Q x) (a : List L8) (ha : a.length + ((textsT d).flatMap F).length ≤ 1000000) (c0 c1 c2 c3 : Value) (w : World) (hw : PA a w) (hS : Old S g w) (hd : NdC S w d c0 c1 c2 c3) :
  Calls Tryz.prog 18 #[.agg #[c0, c1, c2, c3], .func (.func 21) #[] #[.pointer (some ⟨g, 0, none⟩)]] w (fun e w' =>
   (∃ r0 r1 r2 r3, e = .returned (.tuple #[.agg #[r0, r1, r2, r3], .int .i64 0])) ∧ PA (a ++ (textsT d).flatMap F) w' ∧ Kx g w w') := by
 rw [← vis_texts d hf] at hq ha ⊢
 obtain ⟨hpc, hBg⟩ := hPc a w hw
 have hglt := hpc.lt
 have hR := RX.make hS hpc hd
 obtain ⟨k, s, a9, n, q, A, m, r, rfl, rfl, rfl, rfl⟩ := NdC.cellsOk hd
 have hal1 : Below w.heap.size w (w.alloc (.cells #[.int .i64 k, .string s, .slice a9 n q, .slice A m r] 25)) := (Below.refl _ _).alloc (Nat.le_refl _) _
 have hal2 : Below w.heap.size w ((w.alloc (.cells #[.int .i64 k, .string s, .slice a9 n q, .slice A m r] 25)).alloc (.cells #[.int .i64 0, .string ⟨#[]⟩, .slice none 0 0, .slice none 0 0] 25)) := hal1.alloc (by simp) _
 have hwk := HWalk d _ _ _ _ _ hf hc ((hd.all fun b hb => (hS b hb).1 : NdW w d _ _ _ _).below hal2)
 have HR := hid hR
 have HP := hid (pa_fresh B0 g PA hPc hPA hw hal2)
 have HFR := hid (fun W W' a (h : PA a W) (hb : Below W.heap.size W W') => pa_fresh B0 g PA hPc hPA (a := a) h hb)
 have HPU := hid (fun W (h : PA (a ++ (visT d).flatMap F) W) (h2 : Tm g W (w.heap.size + 1)) x y z u => pa_put B0 g PA hPA (W := W) h h2 (by omega) x y z u)
 have HREP := hid (fun W (hW : RX S g w W d (.int .i64 k) (.string s) (.slice a9 n q) (.slice A m r)) (hp : PA a W) => repl_any B0 g PA hPc hPA Q F HF S (cntT d) d (Nat.le_refl _) (by omega) hq a ha _ _ _ _ W hp (hW.1.go hW.2.2.1) hW.2.2.2.2.2.2.2)
 obtain ⟨x0, x1, x2, x3⟩ := HR.out.2.2.2.1.cells
 have HGL : Hid (g < w.heap.size) := hid hglt
 clear hR hd hS hf hc hq hal1 hal2 hw hPA hPc HF HWalk ha hpc hBg hglt
 have hnil : ∀ W, (binOp .eql 45 (.func (.func 21) #[] #[.pointer (some ⟨g, 0, none⟩)]) .nilFunc).run Tryz.prog W = .ok (.bool false) W := fun W => by kernel_rfl
 go_enter Tryz.func18, Tryz.ntmps18
 go_wp2_with fail
 refine hwk.mono ?_
 rintro e w2 ⟨rfl, hb2⟩
 have HR2 := hid (HR.out.far (hb2.mono HR.out.size))
 have hrep := HREP.out w2 HR2.out (HFR.out _ _ _ HP.out hb2)
 clear hwk hb2 HREP x0 x1 x2 x3 HR HP
 obtain ⟨x0, x1, x2, x3⟩ := HR2.out.2.2.2.1.cells
 go_wp2_with fail
 refine hrep.mono ?_
 rintro e w3 ⟨⟨d', r0, r1, r2, r3, rfl, hrn⟩, hpa, hgr⟩
 have HR3 := hid (HR2.out.go hgr)
 have HPD := hid (HPU.out w3 hpa HR3.out.2.2.2.2.2.2.1)
 obtain ⟨z0, z1, z2, z3⟩ := HR3.out.2.2.2.2.1.cells
 obtain ⟨f0, f1, f2, f3⟩ := HR3.out.2.2.2.2.1.frozen
 obtain ⟨k2, s2, a2, n2, q2, A2, m2, r2', rfl, rfl, rfl, rfl⟩ := NdC.cellsOk hrn
 clear hrn hgr hrep hpa
 go_wp2
 have hbb : Below w.heap.size w3 (put4 w3 (w.heap.size + 1) (.int .i64 k2) (.string s2) (.slice a2 n2 q2) (.slice A2 m2 r2')) := below_put4 (Below.refl _ _) (by omega) _ _ _ _
 refine bodyPost_ret (v := .tuple #[.agg #[.int .i64 k2, .string s2, .slice a2 n2 q2, .slice A2 m2 r2'], .int .i64 0]) (by simp [results, Tryz.results18, go_sem, z0, z1, z2, z3]) rfl ⟨⟨_, _, _, _, rfl⟩, HPD.out _ _ _ _, HR3.out.2.2.1.below HGL.out hbb⟩
end
end Col
end Go.Proofs.YtkcilmmaggmmoaaGreatDoor
