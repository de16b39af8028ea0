/- The contract of the reader's readAll. -/
import Derived.Test.YtemndagaicamiaaGreatDoorFloRd10
namespace Go.Proofs.YtemndagaicamiaaGreatDoor
open Go.RowKit Go.Sort
open Nw N8 Q6 F9 Go.ChangeShapes Go.WideShapes
set_option linter.unusedVariables false
/-- A scope that begins with its label and jumps back to it. -/
theorem wp_scope_at {P : Program} {a : Act} {w : World} {Q : Exit → Act → World → Prop} {T : Code} (l : Nat) (J : Act → World → Prop) (μ : Act → World → Nat) (h0 : J a w)
    (pass : ∀ a w, J a w → ∀ K : Act → World → Prop, (∀ a' w', J a' w' → μ a' w' < μ a w → K a' w') → T.wp P (Exit.jump l K Q) a w) :
    (Code.scope (.seq (.label l) T)).wp P Q a w := by
  refine wp_scope_jumps (rest := .seq .skip T) l J μ ?_ ?_ ?_
  · simp [findLabel]
  · exact wp_seq (wp_label (pass a w h0 J fun a' w' h _ => h))
  · intro a w hJ
    exact wp_seq (wp_skip (pass a w hJ _ fun a' w' h1 h2 => ⟨h1, h2⟩))
/-- What holds where an element is to come. -/
def RJ (b0 g N : Nat) (P : Option Nd) (w0 : World) (a : Act) (w : World) : Prop :=
  ∃ (r : ByteArray) (f : Fr) (S : List Fr) (u2 u3 u4 u5 u6 u7 u8 u9 u10 u11 u12 u13 u14 u15 u16 u17 u18 u19 u20 u21 u22 u23 u24 u25 : Value), a = { tmps := #[.pointer (some ⟨g, 0, none⟩), undef, u2, u3, u4, u5, u6, u7, u8, u9, u10, u11, u12, u13, u14, u15, u16, u17, u18, u19, u20, u21, u22, u23, u24, u25], defers := [] } ∧ ST elm b0 g N N P w r f S ∧ Below b0 w0 w
def Rm (g : Nat) (_ : Act) (w : World) : Nat := match w.cell? ⟨g, 0, none⟩ with | some (.string s) => s.size | _ => 0
theorem rm_of {φ : Fr → List Fr → L8 → Option Nd} {b0 g N M : Nat} {P : Option Nd} {w : World} {r : ByteArray} {f : Fr} {S : List Fr} (h : ST φ b0 g N M P w r f S) (a : Act) : Rm g a w = r.size := by
  obtain ⟨B, m, n, cap, lo, q, qs, hR, hH⟩ := h
  unfold Rm
  rw [hR.cells.1.1]
set_option maxRecDepth 100000 in
set_option maxHeartbeats 8000000 in
theorem readAll_st {b0 g N : Nat} {w : World} {r : ByteArray} {f : Fr} {S : List Fr} {P : Option Nd} (h : ST elm b0 g N N P w r f S) (hN : N ≤ 900000) :
    Calls Tryz.prog 17 #[.pointer (some ⟨g, 0, none⟩)] w fun e w' => Below b0 w w' ∧ ((e = .returned (.bool true) ∧ Rdy b0 g P w') ∨ (e = .returned (.bool false) ∧ P = none)) := by
  have HST0 := Lib.hid h
  clear h
  go_enter Tryz.func17, Tryz.ntmps17
  go_wp2
  refine wp_scope_at 0 (RJ b0 g N P w) (Rm g) ?first ?pass
  case first => exact ⟨r, f, S, _, _, _, _, _, _, _, _, _, _, _, _, _, _, _, _, _, _, _, _, _, _, _, _, rfl, HST0.out, Below.refl _ _⟩
  case pass =>
    clear HST0
    intro a wr hJ K hK
    obtain ⟨r1, f1, S1, u2, u3, u4, u5, u6, u7, u8, u9, u10, u11, u12, u13, u14, u15, u16, u17, u18, u19, u20, u21, u22, u23, u24, u25, rfl, hst, hbel⟩ := hJ
    have HB := Lib.hid hbel
    have HK := Lib.hid hK
    have HM := Lib.hid (fun a => rm_of hst a)
    have HKEY := Lib.hid (readKey_st hst hN)
    clear hbel hK hst
    go_wp2_with fail
    refine HKEY.out.mono ?_
    rintro e W1 (⟨rfl, hP, hb⟩ | ⟨rfl, hb, r2, f2, hst, hs2⟩)
    · have HP := Lib.hid hP
      have HB1 := Lib.hid (HB.out.trans hb)
      clear hP hb HB HKEY
      go_wp2
      try simp only [Exit.jump]
      go_ret
      exact ⟨HB1.out, .inr ⟨rfl, HP.out⟩⟩
    have HB1 := Lib.hid (HB.out.trans hb)
    have HBEG := Lib.hid (begin_st hst hN)
    clear hb hst HB HKEY
    go_wp2_with fail
    refine HBEG.out.mono ?_
    rintro e W2 (⟨rfl, hb, r3, f3, hst, hs3⟩ | ⟨rfl, hb, r3, hst, hs3, h91, h123⟩)
    · have HB2 := Lib.hid (HB1.out.trans hb)
      have HEND := Lib.hid (isEnding_st hst)
      clear hb hst HB1 HBEG
      go_wp2_with fail
      refine HEND.out.mono ?_
      rintro e W3 ⟨hb, r4, hs4, (⟨rfl, hst⟩ | ⟨rfl, hst⟩)⟩
      · have HB3 := Lib.hid (HB2.out.trans hb)
        have HALL := Lib.hid (endAll_st hst hN (fun e => by cases e))
        have hs34 : r4.size ≤ r1.size := by omega
        clear hb hst HB2 HEND
        go_wp2_with fail
        refine HALL.out.mono ?_
        rintro e W4 ⟨rfl, hb, r5, f5, S5, hst, hful, hs5, hstop⟩
        have HB4 := Lib.hid (HB3.out.trans hb)
        clear hb HB3 HALL
        obtain ⟨B, m, n, cap, lo, q, qs, hR, hH⟩ := id hst
        have c1 := hR.cells.1.2
        cases S5 with
        | nil =>
          have hn1 : n = 1 := by
            have h1 := hR.nums
            have h2 : ([] : List Fr).length = 0 := rfl
            omega
          have HD := Lib.hid (isDone_st hst (hful rfl))
          subst hn1
          clear hR hH hst hful hstop
          go_wp2_with fail
          refine HD.out.mono ?_
          rintro e W5 ⟨hb, (⟨rfl, hr⟩ | ⟨rfl, hP⟩)⟩
          · have HR := Lib.hid hr
            have HB5 := Lib.hid (HB4.out.trans hb)
            clear hr hb HD HB4 c1
            go_wp2
            try simp only [Exit.jump]
            go_ret
            exact ⟨HB5.out, .inl ⟨rfl, HR.out⟩⟩
          · have HP := Lib.hid hP
            have HB5 := Lib.hid (HB4.out.trans hb)
            clear hP hb HD HB4 c1
            go_wp2
            try simp only [Exit.jump]
            go_ret
            exact ⟨HB5.out, .inr ⟨rfl, HP.out⟩⟩
        | cons g5 T5 =>
          have hn1 : ((n : Int) == 1) = false := by
            have h1 := hR.nums
            rw [List.length_cons] at h1
            exact beq_eq_false_iff_ne.2 (by omega)
          have HT := Lib.hid (take_st hst hN (hstop (fun e => by cases e)))
          clear hR hH hst hful hstop
          go_wp2_with fail
          refine HT.out.mono ?_
          rintro e W5 ⟨hb, (⟨rfl, r6, hst, hs6⟩ | ⟨rfl, hP⟩)⟩
          · have HST5 := Lib.hid hst
            have HB5 := Lib.hid (HB4.out.trans hb)
            clear hst hb HT HB4 c1
            go_wp2
            go_step3
            refine ⟨rfl, HK.out _ _ ⟨r6, f5, _, _, _, _, _, _, _, _, _, _, _, _, _, _, _, _, _, _, _, _, _, _, _, _, _, rfl, HST5.out, HB5.out⟩ ?_⟩
            rw [rm_of HST5.out, HM.out]
            omega
          · have HP := Lib.hid hP
            have HB5 := Lib.hid (HB4.out.trans hb)
            clear hP hb HT HB4 c1
            go_wp2
            try simp only [Exit.jump]
            go_ret
            exact ⟨HB5.out, .inr ⟨rfl, HP.out⟩⟩
      · have HB3 := Lib.hid (HB2.out.trans hb)
        have HST3 := Lib.hid hst
        clear hb hst HB2 HEND
        go_wp2
        go_step3
        refine ⟨rfl, HK.out _ _ ⟨r4, f3, _, _, _, _, _, _, _, _, _, _, _, _, _, _, _, _, _, _, _, _, _, _, _, _, _, rfl, HST3.out, HB3.out⟩ ?_⟩
        rw [rm_of HST3.out, HM.out]
        omega
    · have HB2 := Lib.hid (HB1.out.trans hb)
      have HSC := Lib.hid (readScalar_st hst hN h91 h123)
      clear hb hst HB1 HBEG h91 h123
      go_wp2_with fail
      refine HSC.out.mono ?_
      rintro e W3 (⟨rfl, hP, hb⟩ | ⟨rfl, hb, r4, f4, hst, hne, hs4⟩)
      · have HP := Lib.hid hP
        have HB3 := Lib.hid (HB2.out.trans hb)
        clear hP hb HB2 HSC
        go_wp2
        try simp only [Exit.jump]
        go_ret
        exact ⟨HB3.out, .inr ⟨rfl, HP.out⟩⟩
      · have HB3 := Lib.hid (HB2.out.trans hb)
        have HALL := Lib.hid (endAll_st hst hN (fun _ => hne))
        have hs34 : r4.size ≤ r1.size := by omega
        clear hb hst HB2 HSC hne
        go_wp2_with fail
        refine HALL.out.mono ?_
        rintro e W4 ⟨rfl, hb, r5, f5, S5, hst, hful, hs5, hstop⟩
        have HB4 := Lib.hid (HB3.out.trans hb)
        clear hb HB3 HALL
        obtain ⟨B, m, n, cap, lo, q, qs, hR, hH⟩ := id hst
        have c1 := hR.cells.1.2
        cases S5 with
        | nil =>
          have hn1 : n = 1 := by
            have h1 := hR.nums
            have h2 : ([] : List Fr).length = 0 := rfl
            omega
          have HD := Lib.hid (isDone_st hst (hful rfl))
          subst hn1
          clear hR hH hst hful hstop
          go_wp2_with fail
          refine HD.out.mono ?_
          rintro e W5 ⟨hb, (⟨rfl, hr⟩ | ⟨rfl, hP⟩)⟩
          · have HR := Lib.hid hr
            have HB5 := Lib.hid (HB4.out.trans hb)
            clear hr hb HD HB4 c1
            go_wp2
            try simp only [Exit.jump]
            go_ret
            exact ⟨HB5.out, .inl ⟨rfl, HR.out⟩⟩
          · have HP := Lib.hid hP
            have HB5 := Lib.hid (HB4.out.trans hb)
            clear hP hb HD HB4 c1
            go_wp2
            try simp only [Exit.jump]
            go_ret
            exact ⟨HB5.out, .inr ⟨rfl, HP.out⟩⟩
        | cons g5 T5 =>
          have hn1 : ((n : Int) == 1) = false := by
            have h1 := hR.nums
            rw [List.length_cons] at h1
            exact beq_eq_false_iff_ne.2 (by omega)
          have HT := Lib.hid (take_st hst hN (hstop (fun e => by cases e)))
          clear hR hH hst hful hstop
          go_wp2_with fail
          refine HT.out.mono ?_
          rintro e W5 ⟨hb, (⟨rfl, r6, hst, hs6⟩ | ⟨rfl, hP⟩)⟩
          · have HST5 := Lib.hid hst
            have HB5 := Lib.hid (HB4.out.trans hb)
            clear hst hb HT HB4 c1
            go_wp2
            go_step3
            refine ⟨rfl, HK.out _ _ ⟨r6, f5, _, _, _, _, _, _, _, _, _, _, _, _, _, _, _, _, _, _, _, _, _, _, _, _, _, rfl, HST5.out, HB5.out⟩ ?_⟩
            rw [rm_of HST5.out, HM.out]
            omega
          · have HP := Lib.hid hP
            have HB5 := Lib.hid (HB4.out.trans hb)
            clear hP hb HT HB4 c1
            go_wp2
            try simp only [Exit.jump]
            go_ret
            exact ⟨HB5.out, .inr ⟨rfl, HP.out⟩⟩
end Go.Proofs.YtemndagaicamiaaGreatDoor
