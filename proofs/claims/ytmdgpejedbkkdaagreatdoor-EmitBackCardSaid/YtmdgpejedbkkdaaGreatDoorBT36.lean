/- FloRd11, NodKd, NodForm, NodRight, FloPrs -/
import Derived.Deep.RegionHeld3
import Derived.Test.YtmdgpejedbkkdaaGreatDoorBT20
import Derived.Test.YtmdgpejedbkkdaaGreatDoorBT3
import Derived.Test.YtmdgpejedbkkdaaGreatDoorBT30
import Derived.Test.YtmdgpejedbkkdaaGreatDoorBT35
import Derived.Test.YtmdgpejedbkkdaaGreatDoorBT5
import Derived.Test.YtmdgpejedbkkdaaGreatDoorBT9
set_option linter.unusedVariables false
set_option linter.unusedSimpArgs false
set_option maxRecDepth 100000
set_option maxHeartbeats 16000000
open Go.Lib (hid)
namespace Go.Proofs.YtmdgpejedbkkdaaGreatDoor
section
open Go.RowKit Go.Sort
open Nw N8 Q6 F9 Go.ChangeShapes Go.WideShapes
theorem wp_scope_at {P : Program} {a : Act} {w : World} {Q : Exit → Act → World → Prop} {T : Code} (l : Nat) (J : Act → World → Prop) (μ : Act → World → Nat) (h0 : J a w)
  (pass : ∀ a w, J a w → ∀ K : Act → World → Prop, (∀ a' w', J a' w' → μ a' w' < μ a w → K a' w') → T.wp P (Exit.jump l K Q) a w) :
  (Code.scope (.seq (.label l) T)).wp P Q a w := by
 refine wp_scope_jumps (rest := .seq .skip T) l J μ ?_ ?_ ?_
 ·simp [findLabel]
 ·exact wp_seq (wp_label (pass a w h0 J fun a' w' h _ => h))
 ·intro a w hJ
  exact wp_seq (wp_skip (pass a w hJ _ fun a' w' h1 h2 => ⟨h1, h2⟩))
def RJ (b0 g N : Nat) (P : Option Nd) (w0 : World) (a : Act) (w : World) : Prop :=
 ∃ (r : ByteArray) (f : Fr) (S : List Fr) (u2 u3 u4 u5 u6 u7 u8 u9 u10 u11 u12 u13 u14 u15 u16 u17 u18 u19 u20 u21 u22 u23 u24 u25 : Value), a = { tmps := #[.pointer (some ⟨g, 0, none⟩), undef, u2, u3, u4, u5, u6, u7, u8, u9, u10, u11, u12, u13, u14, u15, u16, u17, u18, u19, u20, u21, u22, u23, u24, u25], defers := [] } ∧ ST elm b0 g N N P w r f S ∧ Below b0 w0 w
def Rm (g : Nat) (_ : Act) (w : World) : Nat := match w.cell? ⟨g, 0, none⟩ with | some (.string s) => s.size | _ => 0
theorem rm_of {φ : Fr → List Fr → L8 → Option Nd} {b0 g N M : Nat} {P : Option Nd} {w : World} {r : ByteArray} {f : Fr} {S : List Fr} (h : ST φ b0 g N M P w r f S) (a : Act) : Rm g a w = r.size := by
 obtain ⟨B, m, n, cap, lo, q, qs, hR, hH⟩ := h
 unfold Rm
 rw [hR.cells.1.1]
theorem readAll_st {b0 g N : Nat} {w : World} {r : ByteArray} {f : Fr} {S : List Fr} {P : Option Nd} (h : ST elm b0 g N N P w r f S) (hN : N ≤ 900000) :
  Calls Tryz.prog 141 #[.pointer (some ⟨g, 0, none⟩)] w fun e w' => Below b0 w w' ∧ ((e = .returned (.bool true) ∧ Rdy b0 g P w') ∨ (e = .returned (.bool false) ∧ P = none)) := by
 have HST0 := hid h
 clear h
 go_enter Tryz.func141, Tryz.ntmps141
 go_wp2
 refine wp_scope_at 0 (RJ b0 g N P w) (Rm g) ?first ?pass
 case first => exact ⟨r, f, S, _, _, _, _, _, _, _, _, _, _, _, _, _, _, _, _, _, _, _, _, _, _, _, _, rfl, HST0.out, Below.refl _ _⟩
 case pass =>
  clear HST0
  intro a wr hJ K hK
  obtain ⟨r1, f1, S1, u2, u3, u4, u5, u6, u7, u8, u9, u10, u11, u12, u13, u14, u15, u16, u17, u18, u19, u20, u21, u22, u23, u24, u25, rfl, hst, hbel⟩ := hJ
  have HB := hid hbel
  have HK := hid hK
  have HM := hid (fun a => rm_of hst a)
  have HKEY := hid (readKey_st hst hN)
  clear hbel hK hst
  go_wp2_with fail
  refine HKEY.out.mono ?_
  rintro e W1 (⟨rfl, hP, hb⟩ | ⟨rfl, hb, r2, f2, hst, hs2⟩)
  ·have HP := hid hP
   have HB1 := hid (HB.out.trans hb)
   clear hP hb HB HKEY
   go_wp2
   try simp only [Exit.jump]
   go_ret
   exact ⟨HB1.out, .inr ⟨rfl, HP.out⟩⟩
  have HB1 := hid (HB.out.trans hb)
  have HBEG := hid (begin_st hst hN)
  clear hb hst HB HKEY
  go_wp2_with fail
  refine HBEG.out.mono ?_
  rintro e W2 (⟨rfl, hb, r3, f3, hst, hs3⟩ | ⟨rfl, hb, r3, hst, hs3, h91, h123⟩)
  ·have HB2 := hid (HB1.out.trans hb)
   have HEND := hid (isEnding_st hst)
   clear hb hst HB1 HBEG
   go_wp2_with fail
   refine HEND.out.mono ?_
   rintro e W3 ⟨hb, r4, hs4, (⟨rfl, hst⟩ | ⟨rfl, hst⟩)⟩
   ·have HB3 := hid (HB2.out.trans hb)
    have HALL := hid (endAll_st hst hN (fun e => by cases e))
    have hs34 : r4.size ≤ r1.size := by omega
    clear hb hst HB2 HEND
    go_wp2_with fail
    refine HALL.out.mono ?_
    rintro e W4 ⟨rfl, hb, r5, f5, S5, hst, hful, hs5, hstop⟩
    have HB4 := hid (HB3.out.trans hb)
    clear hb HB3 HALL
    obtain ⟨B, m, n, cap, lo, q, qs, hR, hH⟩ := id hst
    have c1 := hR.cells.1.2
    cases S5 with
    | nil =>
     have hn1 : n = 1 := by
      have h1 := hR.nums
      have h2 : ([] : List Fr).length = 0 := rfl
      omega
     have HD := hid (isDone_st hst (hful rfl))
     subst hn1
     clear hR hH hst hful hstop
     go_wp2_with fail
     refine HD.out.mono ?_
     rintro e W5 ⟨hb, (⟨rfl, hr⟩ | ⟨rfl, hP⟩)⟩
     ·have HR := hid hr
      have HB5 := hid (HB4.out.trans hb)
      clear hr hb HD HB4 c1
      go_wp2
      try simp only [Exit.jump]
      go_ret
      exact ⟨HB5.out, .inl ⟨rfl, HR.out⟩⟩
     ·have HP := hid hP
      have HB5 := hid (HB4.out.trans hb)
      clear hP hb HD HB4 c1
      go_wp2
      try simp only [Exit.jump]
      go_ret
      exact ⟨HB5.out, .inr ⟨rfl, HP.out⟩⟩
    | cons g5 T5 =>
     have hn1 : ((n : Int) == 1) = false := by
      have h1 := hR.nums
      rw [List.length_cons] at h1
      exact beq_eq_false_iff_ne.2 (by omega)
     have HT := hid (take_st hst hN (hstop (fun e => by cases e)))
     clear hR hH hst hful hstop
     go_wp2_with fail
     refine HT.out.mono ?_
     rintro e W5 ⟨hb, (⟨rfl, r6, hst, hs6⟩ | ⟨rfl, hP⟩)⟩
     ·have HST5 := hid hst
      have HB5 := hid (HB4.out.trans hb)
      clear hst hb HT HB4 c1
      go_wp2
      go_step3
      refine ⟨rfl, HK.out _ _ ⟨r6, f5, _, _, _, _, _, _, _, _, _, _, _, _, _, _, _, _, _, _, _, _, _, _, _, _, _, rfl, HST5.out, HB5.out⟩ ?_⟩
      rw [rm_of HST5.out, HM.out]
      omega
     ·have HP := hid hP
      have HB5 := hid (HB4.out.trans hb)
      clear hP hb HT HB4 c1
      go_wp2
      try simp only [Exit.jump]
      go_ret
      exact ⟨HB5.out, .inr ⟨rfl, HP.out⟩⟩
   ·have HB3 := hid (HB2.out.trans hb)
    have HST3 := hid hst
    clear hb hst HB2 HEND
    go_wp2
    go_step3
    refine ⟨rfl, HK.out _ _ ⟨r4, f3, _, _, _, _, _, _, _, _, _, _, _, _, _, _, _, _, _, _, _, _, _, _, _, _, _, rfl, HST3.out, HB3.out⟩ ?_⟩
    rw [rm_of HST3.out, HM.out]
    omega
  ·have HB2 := hid (HB1.out.trans hb)
   have HSC := hid (readScalar_st hst hN h91 h123)
   clear hb hst HB1 HBEG h91 h123
   go_wp2_with fail
   refine HSC.out.mono ?_
   rintro e W3 (⟨rfl, hP, hb⟩ | ⟨rfl, hb, r4, f4, hst, hne, hs4⟩)
   ·have HP := hid hP
    have HB3 := hid (HB2.out.trans hb)
    clear hP hb HB2 HSC
    go_wp2
    try simp only [Exit.jump]
    go_ret
    exact ⟨HB3.out, .inr ⟨rfl, HP.out⟩⟩
   ·have HB3 := hid (HB2.out.trans hb)
    have HALL := hid (endAll_st hst hN (fun _ => hne))
    have hs34 : r4.size ≤ r1.size := by omega
    clear hb hst HB2 HSC hne
    go_wp2_with fail
    refine HALL.out.mono ?_
    rintro e W4 ⟨rfl, hb, r5, f5, S5, hst, hful, hs5, hstop⟩
    have HB4 := hid (HB3.out.trans hb)
    clear hb HB3 HALL
    obtain ⟨B, m, n, cap, lo, q, qs, hR, hH⟩ := id hst
    have c1 := hR.cells.1.2
    cases S5 with
    | nil =>
     have hn1 : n = 1 := by
      have h1 := hR.nums
      have h2 : ([] : List Fr).length = 0 := rfl
      omega
     have HD := hid (isDone_st hst (hful rfl))
     subst hn1
     clear hR hH hst hful hstop
     go_wp2_with fail
     refine HD.out.mono ?_
     rintro e W5 ⟨hb, (⟨rfl, hr⟩ | ⟨rfl, hP⟩)⟩
     ·have HR := hid hr
      have HB5 := hid (HB4.out.trans hb)
      clear hr hb HD HB4 c1
      go_wp2
      try simp only [Exit.jump]
      go_ret
      exact ⟨HB5.out, .inl ⟨rfl, HR.out⟩⟩
     ·have HP := hid hP
      have HB5 := hid (HB4.out.trans hb)
      clear hP hb HD HB4 c1
      go_wp2
      try simp only [Exit.jump]
      go_ret
      exact ⟨HB5.out, .inr ⟨rfl, HP.out⟩⟩
    | cons g5 T5 =>
     have hn1 : ((n : Int) == 1) = false := by
      have h1 := hR.nums
      rw [List.length_cons] at h1
      exact beq_eq_false_iff_ne.2 (by omega)
     have HT := hid (take_st hst hN (hstop (fun e => by cases e)))
     clear hR hH hst hful hstop
     go_wp2_with fail
     refine HT.out.mono ?_
     rintro e W5 ⟨hb, (⟨rfl, r6, hst, hs6⟩ | ⟨rfl, hP⟩)⟩
     ·have HST5 := hid hst
      have HB5 := hid (HB4.out.trans hb)
      clear hst hb HT HB4 c1
      go_wp2
      go_step3
      refine ⟨rfl, HK.out _ _ ⟨r6, f5, _, _, _, _, _, _, _, _, _, _, _, _, _, _, _, _, _, _, _, _, _, _, _, _, _, rfl, HST5.out, HB5.out⟩ ?_⟩
      rw [rm_of HST5.out, HM.out]
      omega
     ·have HP := hid hP
      have HB5 := hid (HB4.out.trans hb)
      clear hP hb HT HB4 c1
      go_wp2
      try simp only [Exit.jump]
      go_ret
      exact ⟨HB5.out, .inr ⟨rfl, HP.out⟩⟩
end
section
open Go.RowKit Go.Sort
open Nw N8 Go.ChangeShapes Go.WideShapes
def Kd (w : World) (v : Value) (ds : List Nd) : Prop :=
 ∃ (A : Option Addr) (cap : Nat), v = .slice A ds.length cap ∧ ds.length ≤ cap ∧ cap ≤ maxLen ∧ (A = none → cap = 0) ∧ NdK (· < w.heap.size) w ds A 0
theorem Kd.below {w w' : World} {v : Value} {ds : List Nd} (h : Kd w v ds) (hb : Below w.heap.size w w') : Kd w' v ds := by
 obtain ⟨A, cap, h1, h2, h3, h4, h5⟩ := h
 exact ⟨A, cap, h1, h2, h3, h4, NdK.keep (fun b hlt => ⟨Nat.lt_of_lt_of_le hlt hb.size, hb.block b hlt⟩) ds h5⟩
theorem Kd.kid {w : World} {A : Option Addr} {n cap : Nat} {ds : List Nd} (h : Kd w (.slice A n cap) ds) (j : Nat) (hj : j < ds.length) :
  ∃ (b o : Nat) (e0 e1 e2 e3 : Value), A = some ⟨b, o, none⟩ ∧ b < w.heap.size ∧ w.cell? ⟨b, o + j * 4, none⟩ = some e0 ∧ w.cell? ⟨b, o + j * 4 + 1, none⟩ = some e1 ∧
    w.cell? ⟨b, o + j * 4 + 2, none⟩ = some e2 ∧ w.cell? ⟨b, o + j * 4 + 3, none⟩ = some e3 ∧ NdW w (ds[j]'hj) e0 e1 e2 e3 := by
 obtain ⟨A', cap', h1, -, -, -, h5⟩ := h
 have hAe : A = A' := by injection h1
 subst hAe
 have := NdK.at_ h5 j hj
 rw [Nat.zero_add] at this
 exact this
theorem NdW.kd {w : World} {k : Int} {t : L8} {ks : List L8} {ds : List Nd} {c0 c1 c2 c3 : Value} (h : NdW w (.mk k t ks ds) c0 c1 c2 c3) : Kd w c3 ds := by
 unfold NdW at h
 rw [NdC] at h
 obtain ⟨-, -, -, h⟩ := h
 exact h
theorem Kd.shape {w : World} {v : Value} {ds : List Nd} (h : Kd w v ds) : ∃ (A : Option Addr) (cap : Nat), v = .slice A ds.length cap ∧ ds.length ≤ cap ∧ cap ≤ maxLen := by
 obtain ⟨A, cap, h1, h2, h3, -⟩ := h
 exact ⟨A, cap, h1, h2, h3⟩
theorem kids_cnt (d : Nd) : d.kids.length ≤ cntT d := by
 cases d with
 | mk k t ks ds =>
  have := cntL_len ds
  show ds.length ≤ _
  rw [cntT]; omega
end
section
open Go.RowKit Go.Sort
open Nw N8 Go.ChangeShapes Go.WideShapes
theorem Sorted_rd {v : Value} {l : List L8} {w : World} (h : Rd w v l) (hb : l.length ≤ 4398046511103) :
  Calls Tryz.prog 134 #[v] w fun e w' => ∃ v', e = .returned v' ∧ Rd w' v' (sortL l) ∧ Below w.heap.size w w' :=
 (Sorted_own v l w h hb).mono fun e w' ⟨v', h1, h2, h3⟩ => ⟨v', h1, rd_of_owns h2, h3⟩
theorem hasForm_any (d : Nd) (hf : Fine d) (hc : cntT d ≤ 100000) (c0 c1 c2 c3 : Value) (w : World) (hd : NdW w d c0 c1 c2 c3) :
  Calls Tryz.prog 112 #[.agg #[c0, c1, c2, c3]] w fun e w' => e = .returned (.bool true) ∧ Below w.heap.size w w' := by
 have HB0 := hid (Boxed.make hd)
 have hkc := kids_cnt d
 cases hf with
 | @mk k t ks ds h0 h3 hf hk hdd =>
  obtain ⟨rfl, rfl, hks, A, cap, rfl, hcap, hm, -, -⟩ := hd.parts
  obtain ⟨a, kcap, rfl, hkc2, hkm⟩ := rd_slice hks
  have hds : ds.length ≤ 100000 := Nat.le_trans hkc hc
  obtain ⟨x0, x1, x2, x3⟩ := HB0.out.2.1.cells
  unfold formB at hf
  unfold maxLen at hm hkm
  clear hdd hd hkc hc
  have hk4 : k = 0 ∨ k = 1 ∨ k = 2 ∨ k = 3 := by omega
  rcases hk4 with rfl | rfl | rfl | rfl
  ·simp at hf
   obtain ⟨⟨rfl, rfl⟩, rfl⟩ := hf
   rw [show ba [] = ⟨#[]⟩ from rfl] at HB0 x1 ⊢
   clear hk h0 h3 hks
   go_enter Tryz.func112, Tryz.ntmps112
   go_wp2
   go_ret
   exact ⟨rfl, HB0.out.1⟩
  ·simp at hf
   obtain ⟨rfl, rfl⟩ := hf
   clear hk h0 h3 hks
   obtain ⟨T, hT⟩ : ∃ T, ba t = T := ⟨_, rfl⟩
   rw [hT] at HB0 x0 x1 x2 x3 ⊢
   clear hT
   go_enter Tryz.func112, Tryz.ntmps112
   go_wp2
   go_ret
   exact ⟨rfl, HB0.out.1⟩
  ·simp at hf
   obtain ⟨rfl, rfl⟩ := hf
   rw [show ba [] = ⟨#[]⟩ from rfl] at HB0 x1 ⊢
   clear hk h0 h3 hks
   generalize ds.length = n at *
   go_enter Tryz.func112, Tryz.ntmps112
   go_wp2
   go_ret
   exact ⟨rfl, HB0.out.1⟩
  ·simp at hf
   obtain rfl := hf
   obtain ⟨h1, h2⟩ := hk rfl
   have HK := hid hks
   have hn : ks.length ≤ 100000 := by omega
   have HSO := hid (fun W (hW : Rd W (.slice a ks.length kcap) ks) => Sorted_rd hW (by omega))
   have HL : Hid ((sortL ks).length = ds.length) := hid (by rw [h2, h1])
   rw [show ba [] = ⟨#[]⟩ from rfl] at HB0 x1 ⊢
   have HB1 := hid (HB0.out.go (below_drew _))
   obtain ⟨n, hnn⟩ : ∃ n, ds.length = n := ⟨_, rfl⟩
   have h1n := h1.trans hnn
   rw [hnn] at HL
   rw [h1n] at HSO hkc2
   simp only [h1n, hnn] at HB0 HB1 x1 x2 x3 HK hcap hn hds ⊢
   clear h0 h3 hks h1 h2 hk hnn h1n
   go_enter Tryz.func112, Tryz.ntmps112
   go_wp2_with fail
   have hS1 : ((w.alloc (.cells #[.int .i64 3, .string ⟨#[]⟩, .slice a n kcap, .slice A n cap] 25)).drew).cell? ⟨w.heap.size, 1, none⟩ = some (.string ⟨#[]⟩) ∧ ((w.alloc (.cells #[.int .i64 3, .string ⟨#[]⟩, .slice a n kcap, .slice A n cap] 25)).drew).cell? ⟨w.heap.size, 2, none⟩ = some (.slice a n kcap) ∧ ((w.alloc (.cells #[.int .i64 3, .string ⟨#[]⟩, .slice a n kcap, .slice A n cap] 25)).drew).cell? ⟨w.heap.size, 3, none⟩ = some (.slice A n cap) := ⟨x1, x2, x3⟩
   go_region_held3 (fun W => W.cell? ⟨w.heap.size, 1, none⟩ = some (.string ⟨#[]⟩) ∧ W.cell? ⟨w.heap.size, 2, none⟩ = some (.slice a n kcap) ∧ W.cell? ⟨w.heap.size, 3, none⟩ = some (.slice A n cap)) (first | exact hS1 | assumption)
    (first | (go_at_call 134; refine (HSO.out _ HB1.out.keys).mono ?_; rintro e w2 ⟨v2, rfl, hr2, hb2⟩; have HB2 := hid (HB1.out.go hb2); have hS2 := HB2.out.2.1.cells.2; obtain ⟨a2, c2, rfl, -, -⟩ := rd_slice hr2))
   all_goals
    rw [HL.out]
    go_wp2
    go_ret
    exact ⟨ret_b (by simp), HB2.out.1⟩
def FormedOf (N : Nat) : Prop := ∀ (d : Nd), cntT d ≤ N → Fine d → cntT d ≤ 100000 → ∀ (c0 c1 c2 c3 : Value) (w : World), NdW w d c0 c1 c2 c3 →
  Calls Tryz.prog 78 #[.agg #[c0, c1, c2, c3]] w fun e w' => e = .returned (.bool true) ∧ Below w.heap.size w w'
theorem notFormed_any (d : Nd) (c0 c1 c2 c3 : Value) (w : World) (hd : NdW w d c0 c1 c2 c3)
  (h : ∀ W, NdW W d c0 c1 c2 c3 → Calls Tryz.prog 78 #[.agg #[c0, c1, c2, c3]] W fun e w' => e = .returned (.bool true) ∧ Below W.heap.size W w') :
  Calls Tryz.prog 113 #[.agg #[c0, c1, c2, c3]] w fun e w' => e = .returned (.bool false) ∧ Below w.heap.size w w' := by
 have HB0 := hid (Boxed.make hd)
 have HR := hid (h _ HB0.out.2.2)
 obtain ⟨x0, x1, x2, x3⟩ := HB0.out.2.1.cells
 clear hd h
 go_enter Tryz.func113, Tryz.ntmps113
 go_wp2_with (go_at_call 78; refine HR.out.mono ?_; rintro e w2 ⟨rfl, hb2⟩)
 go_ret
 exact ⟨rfl, (HB0.out.go hb2).1⟩
theorem IndexFunc_any (N : Nat) (ih : FormedOf N) (ds : List Nd) (hN : cntL ds ≤ N) (hc : cntL ds ≤ 100000) (hf : ∀ d ∈ ds, Fine d) (v : Value) (w : World) (hd : Kd w v ds) :
  Calls Tryz.prog 114 #[v, .func (.func 113) #[] #[]] w fun x w' => x = .returned (.int .i64 (-1)) ∧ Below w.heap.size w w' := by
 have eg : ∀ args w, (callFunc 113 args).run Tryz.prog w = .ok (.enter 113 args) w := enters_of Tryz.func113 (by kernel_rfl) rfl
 have HD0 := hid hd
 obtain ⟨A, cap, rfl, hcap, hm⟩ := hd.shape
 have HIH := hid ih
 have HCN := hid (And.intro hN (And.intro hc hf))
 obtain ⟨n, hn⟩ : ∃ n, ds.length = n := ⟨_, rfl⟩
 have HN := hid hn
 rw [hn] at HD0 hcap ⊢
 unfold maxLen at hm
 have hn63 : n ≤ 9223372036854775807 := by omega
 have HB0 : Hid (Below w.heap.size w w) := hid (Below.refl _ _)
 clear ih hd hn hN hc hf
 go_enter Tryz.func114, Tryz.ntmps114
 go_wp2
 go_loopw [5, 8] (fun s5 si wr => ∃ (i : Nat), i ≤ n ∧ si = .int .i64 (i : Int) ∧ Hid (Below w.heap.size w wr)) (fun _ si _ => n - (intOf si).toNat)
 case atStart => exact ⟨0, Nat.zero_le _, rfl, HB0⟩
 case round =>
  clear HB0
  obtain ⟨i, hi, rfl, HB⟩ := hrel
  by_cases hin : i < n
  ·have hil : i < ds.length := by rw [HN.out]; exact hin
   have hiz : (i : Int) < (n : Int) := by omega
   obtain ⟨b, o, e0, e1, e2, e3, rfl, hb, y0, y1, y2, y3, hnd⟩ := (HD0.out.below HB.out).kid i hil
   obtain ⟨k1, s1, a1, n1, q1, A1, m1, r1, rfl, rfl, rfl, rfl⟩ := ndw_shape hnd
   have hck : cntT (ds[i]'hil) ≤ cntL ds := cntL_mem (List.getElem_mem hil)
   have HR := hid (notFormed_any (ds[i]'hil) _ _ _ _ wr hnd fun W hW => HIH.out (ds[i]'hil) (Nat.le_trans hck HCN.out.1) (HCN.out.2.2 _ (List.getElem_mem hil)) (Nat.le_trans hck HCN.out.2.1) _ _ _ _ W hW)
   clear hnd hck
   go_wp2_with (go_at_fn 113; refine HR.out.mono ?_; rintro e w2 ⟨rfl, hb2⟩)
   have HB2 := hid (belowNext HB.out hb2)
   clear hb2
   go_roundw
   case measure => simp [intOf]; omega
   case rel => exact ⟨i + 1, by omega, by go_num, HB2⟩
  ·obtain rfl : i = n := by omega
   go_wp2
   go_ret
   exact ⟨rfl, HB.out⟩
theorem isFormed_any (N : Nat) : FormedOf N := by
 induction N with
 | zero => intro d h; have := cntT_pos d; omega
 | succ N ih =>
  intro d hN hf hc c0 c1 c2 c3 w hd
  have HB0 := hid (Boxed.make hd)
  have HH := hid (fun W hW => hasForm_any d hf hc c0 c1 c2 c3 W hW)
  obtain ⟨x0, x1, x2, x3⟩ := HB0.out.2.1.cells
  cases hf with
  | @mk k t ks ds h0 h3 hf' hk hdd =>
   rw [cntT] at hN hc
   have HI := hid (fun W hW => IndexFunc_any N ih ds (by omega) (by omega) hdd c3 W hW)
   clear hd ih h0 h3 hf' hk hdd hN hc
   have HCF : Hid (∀ W, Kd W c3 ds → Calls Tryz.prog 79 #[c3, .func (.func 113) #[] #[]] W fun x w' => x = .returned (.bool false) ∧ Below W.heap.size W w') := hid (by
    intro W hW
    have hr := HI.out W hW
    obtain ⟨A, cap, rfl, -, -⟩ := hW.shape
    clear x0 x1 x2 x3
    generalize ds.length = n at *
    go_enter Tryz.func79, Tryz.ntmps79
    go_wp2_with (go_at_call 114; refine hr.mono ?_; rintro e w2 ⟨rfl, hb2⟩)
    go_ret
    exact ⟨rfl, hb2⟩)
   go_enter Tryz.func78, Tryz.ntmps78
   go_wp2_with fail
   refine (HH.out _ HB0.out.2.2).mono ?_
   rintro e w2 ⟨rfl, hb2⟩
   have HB2 := hid (HB0.out.go hb2)
   clear hb2 x0 x1 x2 x3
   obtain ⟨x0, x1, x2, x3⟩ := HB2.out.2.1.cells
   go_wp2_with fail
   refine (HCF.out _ HB2.out.2.2.kd).mono ?_
   rintro e w3 ⟨rfl, hb3⟩
   go_wp2
   go_ret
   exact ⟨rfl, (HB2.out.go hb3).1⟩
theorem isWithin_any (d : Nd) (hf : Fine d) (nodes nest : Int) (hc : (cntT d : Int) ≤ nodes) (hd9 : (depT d : Int) ≤ nest) (hn : nodes ≤ 99999) (c0 c1 c2 c3 : Value) (w : World) (hd : NdW w d c0 c1 c2 c3) :
  Calls Tryz.prog 53 #[.agg #[c0, c1, c2, c3], .int .i64 nodes, .int .i64 nest] w fun e w' => e = .returned (.bool true) ∧ Below w.heap.size w w' := by
 have HB0 := hid (Boxed.make hd)
 have hp := cntT_pos d
 have el : IntKind.i64.wrap (nodes + 1) = nodes + 1 := IntWalk.i64_in _ (by omega)
 have HM := hid (measure_any (cntT d) d (Nat.le_refl _) (nodes + 1) (by omega) (by omega) c0 c1 c2 c3 _ HB0.out.2.2)
 have HF := hid (fun W hW => isFormed_any (cntT d) d (Nat.le_refl _) hf (by omega) c0 c1 c2 c3 W hW)
 obtain ⟨x0, x1, x2, x3⟩ := HB0.out.2.1.cells
 obtain ⟨C, hC⟩ : ∃ C, (cntT d : Int) = C := ⟨_, rfl⟩
 obtain ⟨D, hD⟩ : ∃ D, (depT d : Int) = D := ⟨_, rfl⟩
 obtain ⟨M, hM⟩ : ∃ M, nodes + 1 = M := ⟨_, rfl⟩
 rw [hC, hD, hM] at HM
 rw [hC] at hc
 rw [hD] at hd9
 rw [hM] at el
 clear hd hf hp hC hD
 go_enter Tryz.func53, Tryz.ntmps53
 go_wp2_with fail
 refine HM.out.mono ?_
 rintro e w2 ⟨rfl, hb2⟩
 have HB2 := hid (HB0.out.go hb2)
 clear hb2 x0 x1 x2 x3
 obtain ⟨x0, x1, x2, x3⟩ := HB2.out.2.1.cells
 go_wp2_with fail
 refine (HF.out _ HB2.out.2.2).mono ?_
 rintro e w3 ⟨rfl, hb3⟩
 go_wp2
 go_ret
 exact ⟨rfl, (HB2.out.go hb3).1⟩
theorem Right_any (d : Nd) (hf : Fine d) (hc : cntT d ≤ 2000) (hd9 : depT d ≤ 12) (c0 c1 c2 c3 : Value) (w : World) (hd : NdW w d c0 c1 c2 c3) :
  Calls Tryz.prog 31 #[.agg #[c0, c1, c2, c3]] w fun e w' => e = .returned (.bool true) ∧ Below w.heap.size w w' := by
 have HB0 := hid (Boxed.make hd)
 have HM := hid (isWithin_any d hf 2000 12 (by omega) (by omega) (by omega) c0 c1 c2 c3 _ HB0.out.2.2)
 obtain ⟨x0, x1, x2, x3⟩ := HB0.out.2.1.cells
 clear hd hf hd9 hc
 go_enter Tryz.func31, Tryz.ntmps31
 go_wp2_with (go_at_call 53; refine HM.out.mono ?_; rintro e w2 ⟨rfl, hb2⟩)
 go_ret
 exact ⟨rfl, (HB0.out.go hb2).1⟩
end
section
open Go.RowKit Go.Sort
open Nw N8 Q6 F9
theorem measure_cut (N : Nat) : ∀ (d : Nd), cntT d ≤ N → ∀ (most : Nat), 1 ≤ most → most ≤ 1000000 → ∀ (c0 c1 c2 c3 : Value) (w : World), NdW w d c0 c1 c2 c3 →
  Calls Tryz.prog 77 #[.agg #[c0, c1, c2, c3], .int .i64 (most : Int)] w fun e w' => ∃ (C D : Nat), e = .returned (.tuple #[.int .i64 (C : Int), .int .i64 (D : Int)]) ∧ Hid (C = min (cntT d) most) ∧ D ≤ C ∧ Below w.heap.size w w' := by
 induction N with
 | zero => intro d h; have := cntT_pos d; omega
 | succ N ih =>
  intro d hN most hmost hbig c0 c1 c2 c3 w hd
  cases d with
  | mk k t ks ds =>
   have HB0 := hid (Boxed.make hd)
   obtain ⟨rfl, rfl, _, A, cap, rfl, hcap, hm, hnil, _⟩ := hd.parts
   have HIH := hid ih
   obtain ⟨n, hn⟩ : ∃ n, ds.length = n := ⟨_, rfl⟩
   have HN := hid hn
   rw [cntT] at hN
   have hcN : cntL ds ≤ N := by omega
   rw [cntT]
   have HCN := hid hcN
   have hn63 : n ≤ 9223372036854775807 := by unfold maxLen at hm; omega
   obtain ⟨TOT, hT⟩ : ∃ TOT, cntL ds = TOT := ⟨_, rfl⟩
   have HT := hid hT
   rw [hT]
   rw [hn] at HB0 hcap ⊢
   clear ih hd hn hcN hT hN hnil hm
   obtain ⟨TT, hTT⟩ : ∃ TT, ba t = TT := ⟨_, rfl⟩
   rw [hTT] at HB0 ⊢
   clear hTT
   go_enter Tryz.func77, Tryz.ntmps77
   obtain ⟨x0, x1, x2, x3⟩ := HB0.out.2.1.cells
   go_wp2
   clear x0 x1 x2 x3
   go_loopw [4, 5, 7, 8, 9, 13] (fun sc sd s7 s8 s9 si wr => ∃ (j C D : Nat), j ≤ n ∧ C ≤ most ∧ (1 ≤ C ∧ D ≤ C) ∧ si = .int .i64 (j : Int) ∧ sc = .int .i64 (C : Int) ∧ sd = .int .i64 (D : Int) ∧ Hid (C = min (1 + cntL (ds.take j)) most) ∧ Hid (Boxed w wr (.mk k t ks ds) (.int .i64 k) (.string TT) c2 (.slice A n cap))) (fun _ _ _ _ _ si _ => n - (intOf si).toNat)
   case atStart => exact ⟨0, 1, 1, Nat.zero_le _, by omega, ⟨by omega, by omega⟩, rfl, rfl, rfl, hid (by show 1 = min (1 + 0) most; omega), HB0⟩
   case round =>
    clear HB0
    obtain ⟨j, C, D, hj, hC, ⟨hC1, hD⟩, rfl, rfl, rfl, HCJ, HB⟩ := hrel
    by_cases hlt : j < n
    ·have hjl : j < ds.length := by rw [HN.out]; exact hlt
     have hjz : (j : Int) < (n : Int) := by omega
     obtain ⟨b, o, e0, e1, e2, e3, rfl, hb, y0, y1, y2, y3, hnd⟩ := HB.out.2.2.kid j hjl
     obtain ⟨k', s', a', n', c', A', m', q', rfl, rfl, rfl, rfl⟩ := ndw_shape hnd
     have hal : Below wr.heap.size wr (wr.alloc (.cells #[.int .i64 k', .string s', .slice a' n' c', .slice A' m' q'] 25)) := (Below.refl _ _).alloc (Nat.le_refl _) _
     by_cases hcm : C = most
     ·have HE : Hid (C = min (1 + TOT) most) := hid (by
       have h1 := HCJ.out
       have h2 := cntL_take_le ds j
       have h3 := HT.out
       omega)
      have HB1 := hid (HB.out.go hal)
      have p1 : ((C : Int) == (most : Int)) = true := by rw [beq_iff_eq]; omega
      clear hcm hnd hal
      go_wp2
      refine bodyPost_ret (v := .tuple #[.int .i64 (C : Int), .int .i64 (D : Int)]) (by simp [results, Tryz.results77, go_sem]) rfl ⟨C, D, rfl, HE, hD, HB1.out.1⟩
     ·have hcj := cntL_take_succ hjl
      have hpos := cntT_pos (ds[j]'hjl)
      have hCx : C = 1 + cntL (ds.take j) := by have := HCJ.out; omega
      obtain ⟨ml, hml⟩ : ∃ ml : Nat, most - C = ml := ⟨_, rfl⟩
      have HR := hid (HIH.out (ds[j]'hjl) (by have := cntL_mem (List.getElem_mem hjl); have := HCN.out; omega) ml (by omega) (by omega) _ _ _ _ _ (hnd.below hal))
      have HSM : Hid (∀ z, z = min (cntT (ds[j]'hjl)) ml → C + z = min (1 + cntL (ds.take (j + 1))) most) := hid (by intro z hz; rw [hcj, hz, ← hml, hCx]; omega)
      have HZ : Hid (∀ z, z = min (cntT (ds[j]'hjl)) ml → 1 ≤ z ∧ z ≤ ml) := hid (by intro z hz; omega)
      have HB1 := hid (HB.out.go hal)
      have p1 : ((C : Int) == (most : Int)) = false := by rw [beq_eq_false_iff_ne]; omega
      have p2 : IntKind.i64.wrap ((most : Int) - (C : Int)) = (ml : Int) := by
       have : (most : Int) - (C : Int) = (ml : Int) := by omega
       rw [this]; exact IntWalk.i64_in _ (by omega)
      have HML : Hid (C + ml = most) := hid (by omega)
      clear hnd hcj hpos hCx hml hal hcm
      go_wp2_with fail
      refine HR.out.mono ?_
      rintro e w2 ⟨z, y, rfl, hz, hy, hb2⟩
      have HB2 := hid (HB1.out.go hb2)
      have hz1 := HZ.out z hz.out
      have HS := hid (HSM.out z hz.out)
      have hmm := HML.out
      have hCz : C + z ≤ 1000000 := by omega
      have hyb : y ≤ 1000000 := by omega
      clear hb2 hz
      go_wp2
      exact ⟨⟨j + 1, C + z, max D (y + 1), by omega, by omega, ⟨by omega, by omega⟩, by go_num, by go_num, by go_num, HS, HB2⟩, by simp [intOf]; omega⟩
    ·obtain rfl : j = n := by omega
     have HE : Hid (C = min (1 + TOT) most) := hid (by rw [HCJ.out, List.take_of_length_le (by rw [HN.out]; exact Nat.le_refl _), HT.out])
     go_wp2
     refine bodyPost_ret (v := .tuple #[.int .i64 (C : Int), .int .i64 (D : Int)]) (by simp [results, Tryz.results77, go_sem]) rfl ⟨C, D, rfl, HE, hD, HB.out.1⟩
theorem isWithin_no (d : Nd) (hf : Fine d) (hc : cntT d ≤ 2001) (hn : ¬ (cntT d ≤ 2000 ∧ depT d ≤ 12)) (c0 c1 c2 c3 : Value) (w : World) (hd : NdW w d c0 c1 c2 c3) :
  Calls Tryz.prog 53 #[.agg #[c0, c1, c2, c3], .int .i64 2000, .int .i64 12] w fun e w' => e = .returned (.bool false) ∧ Below w.heap.size w w' := by
 have HB0 := hid (Boxed.make hd)
 have HM := hid (measure_any (cntT d) d (Nat.le_refl _) 2001 (by omega) (by omega) c0 c1 c2 c3 _ HB0.out.2.2)
 obtain ⟨x0, x1, x2, x3⟩ := HB0.out.2.1.cells
 obtain ⟨C, hC⟩ : ∃ C, (cntT d : Int) = C := ⟨_, rfl⟩
 obtain ⟨D, hD⟩ : ∃ D, (depT d : Int) = D := ⟨_, rfl⟩
 rw [hC, hD] at HM
 have hn2 : ¬ C ≤ 2000 ∨ (C ≤ 2000 ∧ ¬ D ≤ 12) := by omega
 clear hd hf hc hn hC hD
 rcases hn2 with h1 | ⟨h1, h2⟩
 ·go_enter Tryz.func53, Tryz.ntmps53
  go_wp2_with fail
  refine HM.out.mono ?_
  rintro e w2 ⟨rfl, hb2⟩
  go_wp2
  go_ret
  exact ⟨rfl, (HB0.out.go hb2).1⟩
 ·go_enter Tryz.func53, Tryz.ntmps53
  go_wp2_with fail
  refine HM.out.mono ?_
  rintro e w2 ⟨rfl, hb2⟩
  go_wp2
  go_ret
  exact ⟨rfl, (HB0.out.go hb2).1⟩
theorem isWithin_great (d : Nd) (hn : 2001 < cntT d) (c0 c1 c2 c3 : Value) (w : World) (hd : NdW w d c0 c1 c2 c3) :
  Calls Tryz.prog 53 #[.agg #[c0, c1, c2, c3], .int .i64 2000, .int .i64 12] w fun e w' => e = .returned (.bool false) ∧ Below w.heap.size w w' := by
 have HB0 := hid (Boxed.make hd)
 have hm := measure_cut (cntT d) d (Nat.le_refl _) 2001 (by omega) (by omega) c0 c1 c2 c3 _ HB0.out.2.2
 have HM : Hid (Calls Tryz.prog 77 #[.agg #[c0, c1, c2, c3], .int .i64 2001] (w.alloc (.cells #[c0, c1, c2, c3] 25)) fun e w' => ∃ D : Int, e = .returned (.tuple #[.int .i64 2001, .int .i64 D]) ∧ Below (w.alloc (.cells #[c0, c1, c2, c3] 25)).heap.size (w.alloc (.cells #[c0, c1, c2, c3] 25)) w') := hid (hm.mono fun e w' ⟨C, D, h1, h2, h3, h4⟩ => ⟨D, by
  have : C = 2001 := by have := h2.out; omega
  rw [h1, this]; rfl, h4⟩)
 obtain ⟨x0, x1, x2, x3⟩ := HB0.out.2.1.cells
 clear hd hn hm
 go_enter Tryz.func53, Tryz.ntmps53
 go_wp2_with fail
 refine HM.out.mono ?_
 rintro e w2 ⟨D, rfl, hb2⟩
 go_wp2
 go_ret
 exact ⟨rfl, (HB0.out.go hb2).1⟩
theorem Right_gen (d : Nd) (hf : Fine d) (r : Bool) (hr : okT 2000 d = r) (c0 c1 c2 c3 : Value) (w : World) (hd : NdW w d c0 c1 c2 c3) :
  Calls Tryz.prog 31 #[.agg #[c0, c1, c2, c3]] w fun e w' => e = .returned (.bool r) ∧ Below w.heap.size w w' := by
 cases r with
 | true =>
  obtain ⟨-, h1, h2⟩ := (ok_iff (most := 2000)).1 hr
  exact Right_any d hf h1 h2 c0 c1 c2 c3 w hd
 | false =>
  have hn : ¬ (cntT d ≤ 2000 ∧ depT d ≤ 12) := fun h => by
   have : okT 2000 d = true := (ok_iff (most := 2000)).2 ⟨hf, h.1, h.2⟩
   rw [this] at hr; cases hr
  have HB0 := hid (Boxed.make hd)
  have HM := hid (show Calls Tryz.prog 53 #[.agg #[c0, c1, c2, c3], .int .i64 2000, .int .i64 12] (w.alloc (.cells #[c0, c1, c2, c3] 25)) fun e w' => e = .returned (.bool false) ∧ Below (w.alloc (.cells #[c0, c1, c2, c3] 25)).heap.size (w.alloc (.cells #[c0, c1, c2, c3] 25)) w' from by
   by_cases hc : cntT d ≤ 2001
   ·exact isWithin_no d hf hc hn c0 c1 c2 c3 _ HB0.out.2.2
   ·exact isWithin_great d (by omega) c0 c1 c2 c3 _ HB0.out.2.2)
  obtain ⟨x0, x1, x2, x3⟩ := HB0.out.2.1.cells
  clear hd hf hn hr
  go_enter Tryz.func31, Tryz.ntmps31
  go_wp2_with (go_at_call 53; refine HM.out.mono ?_; rintro e w2 ⟨rfl, hb2⟩)
  go_ret
  exact ⟨rfl, (HB0.out.go hb2).1⟩
end
section
open Go.RowKit Go.Sort
open Nw N8 Q6 F9 Go.ChangeShapes Go.WideShapes
def ParseC : Prop := ∀ (s : ByteArray) (w : World), s.size ≤ 500000 → ∀ (P : Option Nd), parP s.data.toList = P →
  Calls Tryz.prog 132 #[.string s] w fun e w' => ∃ (k : Int) (t : ByteArray) (a : Option Addr) (n c : Nat) (A : Option Addr) (m q : Nat),
   e = .returned (.tuple #[.agg #[.int .i64 k, .string t, .slice a n c, .slice A m q], .int .i64 (parE P)]) ∧ NdC (fun b => w.heap.size ≤ b ∧ b < w'.heap.size) w' (parD P) (.int .i64 k) (.string t) (.slice a n c) (.slice A m q) ∧ Below w.heap.size w w'
theorem make_one (W : World) : (Instr.makeSlice 23 (.int .i64 1) (.int .i64 1)).run Tryz.prog W = .ok (.slice (some ⟨W.heap.size, 0, none⟩) 1 1) (W.alloc (.cells #[.int .i64 0, .string ⟨#[]⟩, .slice none 0 0, .slice none 0 0] 25)) := by kernel_rfl
theorem start_st (s : ByteArray) (w : World) (P : Option Nd) (hP : parP s.data.toList = P) :
  ST elm (w.heap.size + 1) (w.heap.size + 1 + 1) s.size s.size P (((w.alloc (.cells #[.int .i64 0, .string ⟨#[]⟩, .slice none 0 0, .slice none 0 0] 25)).alloc (.cells #[.int .i64 0, .string ⟨#[]⟩, .slice none 0 0, .slice none 0 0] 25)).alloc (.cells #[.string s, .slice (some ⟨w.heap.size + 1, 0, none⟩) 1 1] 133)) s ⟨0, [], []⟩ [] := by
 subst hP
 obtain ⟨W1, h1⟩ : ∃ W1, w.alloc (.cells #[.int .i64 0, .string ⟨#[]⟩, .slice none 0 0, .slice none 0 0] 25) = W1 := ⟨_, rfl⟩
 have s1 : W1.heap.size = w.heap.size + 1 := by rw [← h1]; simp
 rw [h1]
 obtain ⟨W2, h2⟩ : ∃ W2, W1.alloc (.cells #[.int .i64 0, .string ⟨#[]⟩, .slice none 0 0, .slice none 0 0] 25) = W2 := ⟨_, rfl⟩
 have s2 : W2.heap.size = w.heap.size + 1 + 1 := by rw [← h2]; simp [s1]
 have b2 : W2.heap[w.heap.size + 1]? = some (.cells #[.int .i64 0, .string ⟨#[]⟩, .slice none 0 0, .slice none 0 0] 25 (0, 0)) := by
  rw [← h2, ← s1]; exact Row4.make W1 _ _ _ _ _
 rw [h2]
 obtain ⟨W3, h3⟩ : ∃ W3, W2.alloc (.cells #[.string s, .slice (some ⟨w.heap.size + 1, 0, none⟩) 1 1] 133) = W3 := ⟨_, rfl⟩
 have s3 : W3.heap.size = w.heap.size + 1 + 1 + 1 := by rw [← h3]; simp [s2]
 have b3 : W3.heap[w.heap.size + 1]? = some (.cells #[.int .i64 0, .string ⟨#[]⟩, .slice none 0 0, .slice none 0 0] 25 (0, 0)) := by
  rw [← h3]; exact (Below.heap_alloc W2 _ _ (by omega)).trans b2
 have c3 : W3.heap[w.heap.size + 1 + 1]? = some (.cells #[.string s, .slice (some ⟨w.heap.size + 1, 0, none⟩) 1 1] 133 (0, 0)) := by
  rw [← h3, ← s2]
  show (W2.heap.push _)[W2.heap.size]? = _
  simp
 rw [h3]
 refine ⟨w.heap.size + 1, 0, 1, 1, w.heap.size + 1 + 1 + 1, ⟨.int .i64 0, .string ⟨#[]⟩, .slice none 0 0, .slice none 0 0⟩, [], ⟨⟨by omega, rfl, rfl, by omega⟩, c3, ⟨rfl, .inr ⟨_, _, _, rfl, Nat.le_refl _, b3, Nat.le_refl _, by unfold maxLen; omega, rfl, rfl⟩⟩, ?_, Nat.le_refl _⟩, hld_start _⟩
 exact ⟨⟨rfl, rfl⟩, World.ownsRow_nil _ _ _ _, ⟨[], World.ownsRow_nil _ _ _ _, rfl, fun j hj => absurd hj (Nat.not_lt_zero _)⟩, fun b hb' => (by cases hb'), fun b hb' => (by cases hb')⟩
theorem rdy_at {b0 g : Nat} {P : Option Nd} {W : World} (h : Rdy b0 g P W) : ∃ (B c1 : Nat) (A : Option Addr) (n c b o : Nat) (k : Int) (t : ByteArray) (a2 : Option Addr) (n2 c2 : Nat) (A2 : Option Addr) (m2 q2 : Nat) (d : Nd),
  W.cell? ⟨g, 1, none⟩ = some (.slice (some ⟨B, 0, none⟩) 1 c1) ∧ W.cell? ⟨B, 3, none⟩ = some (.slice A n c) ∧ 0 < n ∧ A = some ⟨b, o, none⟩ ∧ W.cell? ⟨b, o, none⟩ = some (.int .i64 k) ∧ W.cell? ⟨b, o + 1, none⟩ = some (.string t) ∧
   W.cell? ⟨b, o + 2, none⟩ = some (.slice a2 n2 c2) ∧ W.cell? ⟨b, o + 3, none⟩ = some (.slice A2 m2 q2) ∧ NdC (fun b => g < b ∧ b < W.heap.size) W d (.int .i64 k) (.string t) (.slice a2 n2 c2) (.slice A2 m2 q2) ∧ P = some d := by
 obtain ⟨B, m, n, cap, lo, r, q, qs, f, hR, d, ds, hds, hP⟩ := h
 have hn := hR.nums
 have h0 : ([] : List Fr).length = 0 := rfl
 obtain rfl : m = 0 := by omega
 obtain rfl : n = 1 := by omega
 have c1 := hR.cells.1.2
 have t3 := hR.top.1.2.2.2
 rw [Nat.zero_mul, Nat.zero_add] at t3
 obtain ⟨-, A, c, hqd⟩ := hR.shapes
 obtain ⟨-, -, ⟨ps, hko⟩, -, h6⟩ := hR.2.2.2.1
 have hlo := hR.lt.2.2.2
 have hk : KdS (fun b => g < b ∧ b < W.heap.size) W q.d f.ds := hko.kdS (fun b hb => ⟨by have := hb.1; omega, hb.2.1⟩) fun b hb => ⟨by have := (hko.1.lt b hb).1; omega, (h6 b hb).1⟩
 rw [hqd] at hk t3
 obtain ⟨b, o, e0, e1, e2, e3, hA, -, y0, y1, y2, y3, hN⟩ := hk.kid 0 (by rw [hds]; exact Nat.succ_pos _)
 obtain ⟨k, t, a2, n2, c2, A2, m2, q2, rfl, rfl, rfl, rfl⟩ := hN.cellsOk
 rw [Nat.zero_mul, Nat.add_zero] at y0 y1 y2 y3
 have hd0 : f.ds[0]'(by rw [hds]; exact Nat.succ_pos _) = d := by simp [hds]
 rw [hd0] at hN
 exact ⟨B, cap, A, f.ds.length, c, b, o, k, t, a2, n2, c2, A2, m2, q2, d, c1, t3, by rw [hds]; exact Nat.succ_pos _, hA, y0, y1, y2, y3, hN, hP⟩
theorem parse_c : ParseC := by
 intro s w hs P hP
 have hmk := make_one
 have hst := start_st s w P hP
 have hfine : ∀ d, P = some d → Fine d := fun d hd => (par_got (by rw [hP, hd])).1
 have HRA := hid (readAll_st hst (by omega))
 have HBX := hid (Row4.make w 25 (.int .i64 0) (.string ⟨#[]⟩) (.slice none 0 0) (.slice none 0 0))
 have HB0 := hid ((((Below.refl w.heap.size w).alloc (Nat.le_refl _) (.cells #[.int .i64 0, .string ⟨#[]⟩, .slice none 0 0, .slice none 0 0] 25)).alloc (by simp) (.cells #[.int .i64 0, .string ⟨#[]⟩, .slice none 0 0, .slice none 0 0] 25)).alloc (by simp; omega) (.cells #[.string s, .slice (some ⟨w.heap.size + 1, 0, none⟩) 1 1] 133))
 have HB1 := hid ((HBX.out.alloc (.cells #[.int .i64 0, .string ⟨#[]⟩, .slice none 0 0, .slice none 0 0] 25)).alloc (.cells #[.string s, .slice (some ⟨w.heap.size + 1, 0, none⟩) 1 1] 133))
 have HFINE := hid hfine
 clear hs hP hst hfine HBX
 go_enter Tryz.func132, Tryz.ntmps132
 go_upto_region 2 with fail
 generalize ((w.alloc (.cells #[.int .i64 0, .string ⟨#[]⟩, .slice none 0 0, .slice none 0 0] 25)).alloc (.cells #[.int .i64 0, .string ⟨#[]⟩, .slice none 0 0, .slice none 0 0] 25)).alloc (.cells #[.string s, .slice (some ⟨w.heap.size + 1, 0, none⟩) 1 1] 133) = W3 at *
 clear hmk
 go_wp2_with fail
 refine HRA.out.mono ?_
 rintro e W4 ⟨hb, (⟨rfl, hr⟩ | ⟨rfl, hP⟩)⟩
 ·have HB4 := hid (HB0.out.trans (hb.mono (by omega)))
  have HX4 := hid (HB1.out.below hb (by omega))
  obtain ⟨B, cc, A, nn, cN, b, o, k, t, a2, n2, c2, A2, m2, q2, d, g1, g3, hn0, rfl, y0, y1, y2, y3, hN, hP⟩ := rdy_at hr
  have hn0z : (0 : Int) < (nn : Int) := by omega
  have hb5 : Below W4.heap.size W4 (W4.alloc (.cells #[.int .i64 k, .string t, .slice a2 n2 c2, .slice A2 m2 q2] 25)) := (Below.refl _ _).alloc (Nat.le_refl _) _
  have hN5 : NdC (fun b => w.heap.size + 1 + 1 < b ∧ b < (W4.alloc (.cells #[.int .i64 k, .string t, .slice a2 n2 c2, .slice A2 m2 q2] 25)).heap.size) (W4.alloc (.cells #[.int .i64 k, .string t, .slice a2 n2 c2, .slice A2 m2 q2] 25)) d (.int .i64 k) (.string t) (.slice a2 n2 c2) (.slice A2 m2 q2) := NdC.keep (fun b hx => ⟨⟨hx.1, Nat.lt_of_lt_of_le hx.2 hb5.size⟩, hb5.block b hx.2⟩) _ hN
  have hNW : NdW (W4.alloc (.cells #[.int .i64 k, .string t, .slice a2 n2 c2, .slice A2 m2 q2] 25)) d (.int .i64 k) (.string t) (.slice a2 n2 c2) (.slice A2 m2 q2) := NdC.keep (fun b hx => ⟨hx.2, rfl⟩) _ hN5
  obtain ⟨ok, hok⟩ : ∃ ok, okT 2000 d = ok := ⟨_, rfl⟩
  have HRI := hid (Right_gen d (HFINE.out d hP) ok hok _ _ _ _ _ hNW)
  have HN5 := hid hN5
  have HX5 := hid (HX4.out.below hb5 HX4.out.lt)
  have HB5 := hid (HB4.out.trans (hb5.mono HB4.out.size))
  have HY5 := hid (Row4.make W4 25 (.int .i64 k) (.string t) (.slice a2 n2 c2) (.slice A2 m2 q2))
  have HP := hid hP
  have hHW : w.heap.size ≠ W4.heap.size := by have := HX4.out.lt; omega
  clear hP hb HB0 HB1 HRA HFINE hr hn0 hN hb5 hN5 hNW HX4 HB4
  go_upto_region 5 with fail
  generalize W4.alloc (.cells #[.int .i64 k, .string t, .slice a2 n2 c2, .slice A2 m2 q2] 25) = W5 at *
  generalize W4.heap.size = gx at *
  clear g1 g3 y0 y1 y2 y3
  obtain ⟨z0, z1, z2, z3⟩ := HY5.out.cells
  go_wp2_with fail
  refine HRI.out.mono ?_
  rintro e W6 ⟨rfl, hb6⟩
  have HX6 := hid (HX5.out.below hb6 HX5.out.lt)
  have HY6 := hid (HY5.out.below hb6 HY5.out.lt)
  have HB6 := hid (HB5.out.trans (hb6.mono HB5.out.size))
  have HN6 := hid (show NdC (fun b => w.heap.size < b ∧ b < W6.heap.size) W6 d (.int .i64 k) (.string t) (.slice a2 n2 c2) (.slice A2 m2 q2) from NdC.keep (fun b hx => ⟨⟨by have := hx.1; omega, Nat.lt_of_lt_of_le hx.2 hb6.size⟩, hb6.block b hx.2⟩) _ HN5.out)
  clear hb6 HX5 HY5 HB5 HN5 HRI z0 z1 z2 z3
  obtain ⟨r0, r1, r2, r3⟩ := HX6.out.cells
  obtain ⟨fr0, fr1, fr2, fr3⟩ := HX6.out.frozen
  cases ok with
  | true =>
   have HE := hid (par_yes hok)
   rw [← HP.out] at HE
   obtain ⟨z0, z1, z2, z3⟩ := HY6.out.cells
   clear hok HY6 HX6
   go_wp2
   refine bodyPost_ret (v := .tuple #[.agg #[.int .i64 k, .string t, .slice a2 n2 c2, .slice A2 m2 q2], .int .i64 0]) (by simp [results, Tryz.results132, go_sem, r0, r1, r2, r3]) rfl
    ⟨k, t, a2, n2, c2, A2, m2, q2, by rw [HE.out.1], ?_, below_p4 HB6.out (Nat.le_refl _) _ _ _ _⟩
   rw [← HE.out.2]
   exact NdC.keep (fun b hx => ⟨⟨Nat.le_of_lt hx.1, by simp [World.setCell]; exact hx.2⟩, by
    have hne : b ≠ w.heap.size := by have := hx.1; omega
    rw [set_oth _ _ _ _ hne, set_oth _ _ _ _ hne, set_oth _ _ _ _ hne, set_oth _ _ _ _ hne]⟩) _ HN6.out
  | false =>
   have HE := hid (par_no hok)
   rw [← HP.out] at HE
   clear hok HY6 HX6 HN6
   go_wp2
   refine bodyPost_ret (v := .tuple #[.agg #[.int .i64 0, .string ⟨#[]⟩, .slice none 0 0, .slice none 0 0], .int .i64 9]) (by simp [results, Tryz.results132, go_sem, r0, r1, r2, r3]) rfl
    ⟨0, ⟨#[]⟩, none, 0, 0, none, 0, 0, by rw [← HE.out.1], ?_, below_p4 HB6.out (Nat.le_refl _) _ _ _ _⟩
   rw [← HE.out.2]
   exact nd_nul _ _
 ·have HB4 := hid (HB0.out.trans (hb.mono (by omega)))
  have HX4 := hid (HB1.out.below hb (by omega))
  have HP := hid hP
  clear hP hb HB0 HB1 HRA HFINE
  obtain ⟨r0, r1, r2, r3⟩ := HX4.out.cells
  obtain ⟨fr0, fr1, fr2, fr3⟩ := HX4.out.frozen
  go_wp2
  refine bodyPost_ret (v := .tuple #[.agg #[.int .i64 0, .string ⟨#[]⟩, .slice none 0 0, .slice none 0 0], .int .i64 3]) (by simp [results, Tryz.results132, go_sem, r0, r1, r2, r3]) rfl
   ⟨0, ⟨#[]⟩, none, 0, 0, none, 0, 0, by rw [HP.out]; rfl, ?_, below_p4 HB4.out (Nat.le_refl _) _ _ _ _⟩
  rw [HP.out]
  exact nd_nul _ _
end
end Go.Proofs.YtmdgpejedbkkdaaGreatDoor
