/- The reference's address, Right. -/
import Derived.Test.YtkgfinhepbipeaaDoorRefPrt1
namespace Go.Proofs.YtkgfinhepbipeaaDoor
open Go.RowKit Go.Sort
open Nw Dg P16
set_option linter.unusedVariables false
set_option maxRecDepth 100000 in
set_option maxHeartbeats 16000000 in
theorem RAddr_any (s : ByteArray) (w : World) (hs : s.size ≤ 100000) :
    Calls Tryd.prog 26 #[.string s] w fun e w' => e = .returned (.bool (addrB s.data.toList)) ∧ Below w.heap.size w w' := by
  have HC := Lib.hid (RCut16_any s 46 w hs)
  have HSZ : Hid (∀ p ∈ cutL 46 s.data.toList, p.length ≤ 100000) := Lib.hid (fun p hp => by
    have := cutA_size 46 s.data.toList [] p hp
    rw [show s.data.toList.length = s.size from rfl] at this
    simp at this; omega)
  have HAB : Hid (addrB s.data.toList = (decide ((cutL 46 s.data.toList).length = 4) && (cutL 46 s.data.toList).all fun x => okN x 255)) := Lib.hid rfl
  obtain ⟨l, hl⟩ : ∃ l, cutL 46 s.data.toList = l := ⟨_, rfl⟩
  obtain ⟨R, hR⟩ : ∃ R, addrB s.data.toList = R := ⟨_, rfl⟩
  rw [hl] at HC HSZ HAB
  rw [hR] at HAB
  rw [hR]
  clear hl hR
  by_cases h4 : l.length = 4
  · have HN : Hid (l.length = 4) := Lib.hid h4
    clear h4
    go_enter Tryd.func26, Tryd.ntmps26
    go_wp2_with (go_at_call 21; refine HC.out.mono ?_; rintro e w1 ⟨v, rfl, hrd, hb, _⟩; obtain ⟨a, cap, hv, h1, h2, h3⟩ := hrd; rw [HN.out] at hv h1; subst hv; unfold maxLen at h2; have H3 := Lib.hid h3; clear h3; have HB := Lib.hid hb; clear hb)
    go_loopw [4, 5, 6] (fun si s5 s6 wr => ∃ k : Nat, k ≤ 4 ∧ si = .int .i64 (k : Int) ∧ wr = w1 ∧ Hid ((l.take k).all (fun x => okN x 255) = true)) (fun si _ _ _ => 4 - (intOf si).toNat)
    case atStart => exact ⟨0, Nat.zero_le _, rfl, rfl, Lib.hid rfl⟩
    case round =>
      obtain ⟨k, hk, rfl, rfl, HA⟩ := hrel
      by_cases hlt : k < 4
      · have hkl : Hid (k < l.length) := Lib.hid (by rw [HN.out]; exact hlt)
        have hkz : (k : Int) < 4 := by omega
        rcases H3.out with ⟨h0, _⟩ | ⟨b, o, rfl, h5, h6⟩
        · exact absurd hkl.out (by rw [h0]; exact Nat.not_lt_zero _)
        have hc := h6 k hkl.out
        clear h6
        obtain ⟨X, hX⟩ : ∃ X, ba (l[k]'hkl.out) = X := ⟨_, rfl⟩
        have HX : Hid (X.data.toList = l[k]'hkl.out) := Lib.hid (by rw [← hX, ba_data])
        have hXs : X.size ≤ 100000 := by
          have h9 := HSZ.out _ (List.getElem_mem hkl.out)
          rw [← HX.out] at h9; exact h9
        rw [hX] at hc
        have HK := Lib.hid (fun w0 => RCount_any X 255 w0 (by unfold maxLen; omega) (by decide) (by decide))
        obtain ⟨N, hN⟩ : ∃ N, countN X.data.toList 255 = N := ⟨_, rfl⟩
        obtain ⟨E, hE⟩ : ∃ E, countE X.data.toList 255 = E := ⟨_, rfl⟩
        rw [hN, hE] at HK
        have HOK : Hid (okN (l[k]'hkl.out) 255 = (E == 0)) := Lib.hid (by unfold okN; rw [← HX.out, hE])
        clear hN hE hX
        have kw : IntKind.i64.wrap ((k : Int) + 1) = (k : Int) + 1 := IntWalk.i64_in _ (by omega)
        by_cases hE0 : E = 0
        · subst hE0
          have HN2 : Hid ((l.take (k + 1)).all (fun x => okN x 255) = true) := Lib.hid (by
            rw [List.take_succ_eq_append_getElem hkl.out, List.all_append, HA.out, List.all_cons, HOK.out]; rfl)
          go_wp2_with (go_at_call 22; refine (HK.out _).mono ?_; rintro e w3 ⟨rfl, rfl⟩)
          go_roundw
          case rel => exact ⟨k + 1, by omega, by go_num, trivial, HN2⟩
          case measure => simp [intOf]; omega
        · have e1 : (E == 0) = false := beq_eq_false_iff_ne.2 hE0
          have e2 : (E != 0) = true := bne_iff_ne.2 hE0
          have HE : Hid (R = false) := Lib.hid (by
            rw [HAB.out, HN.out, decide_eq_true rfl, Bool.true_and, List.all_eq_false]
            exact ⟨_, List.getElem_mem hkl.out, by rw [HOK.out, e1]; exact Bool.false_ne_true⟩)
          go_wp2_with (go_at_call 22; refine (HK.out _).mono ?_; rintro e w3 ⟨rfl, rfl⟩)
          go_ret
          exact ⟨by rw [HE.out]; rfl, HB.out⟩
      · obtain rfl : k = 4 := by omega
        have HE : Hid (R = true) := Lib.hid (by
          rw [HAB.out, HN.out, decide_eq_true rfl, Bool.true_and]
          have := HA.out
          rw [List.take_of_length_le (by rw [HN.out]; exact Nat.le_refl _)] at this
          exact this)
        go_wp2
        go_ret
        exact ⟨by rw [HE.out]; rfl, HB.out⟩
  · have HE : Hid (R = false) := Lib.hid (by rw [HAB.out, decide_eq_false h4, Bool.false_and])
    have e1 : ((l.length : Int) == 4) = false := beq_eq_false_iff_ne.2 (by omega)
    have e2 : ((l.length : Int) != 4) = true := bne_iff_ne.2 (by omega)
    have e3 : ¬ (l.length : Int) = 4 := by omega
    obtain ⟨ln, hln⟩ : ∃ ln, l.length = ln := ⟨_, rfl⟩
    have HN := Lib.hid hln
    rw [hln] at h4 e1 e2 e3
    clear hln
    go_enter Tryd.func26, Tryd.ntmps26
    go_wp2_with (go_at_call 21; refine HC.out.mono ?_; rintro e w1 ⟨v, rfl, hrd, hb, _⟩; obtain ⟨a, cap, hv, h1, h2, h3⟩ := hrd; rw [HN.out] at hv h1; subst hv; unfold maxLen at h2; clear h3; have HB := Lib.hid hb; clear hb)
    go_ret
    exact ⟨by rw [HE.out]; rfl, HB.out⟩
/-- A port's value. -/
def poV (h : ByteArray) (o i : Int) (pr : ByteArray) : Value := .agg #[.string h, .int .i64 o, .int .i64 i, .string pr]
def tcpS : ByteArray := ⟨#[116, 99, 112]⟩
def udpS : ByteArray := ⟨#[117, 100, 112]⟩
theorem ba_extP {a b : ByteArray} (h : a.data.toList = b.data.toList) : a = b := by
  cases a; cases b; simp at h; simp [h]
set_option maxRecDepth 100000 in
set_option maxHeartbeats 16000000 in
theorem RRight_any (h pr : ByteArray) (o i : Int) (w : World) (hs : h.size ≤ 100000) :
    Calls Tryd.prog 11 #[.agg #[.string h, .int .i64 o, .int .i64 i, .string pr]] w fun e w' => e = .returned (.bool (rightB ⟨h.data.toList, o, i, pr.data.toList⟩)) ∧ Below w.heap.size w w' := by
  obtain ⟨R, hR⟩ : ∃ R, rightB ⟨h.data.toList, o, i, pr.data.toList⟩ = R := ⟨_, rfl⟩
  have HR : Hid (R = ((decide (1 ≤ i) && decide (i ≤ 65535)) && (decide (0 ≤ o) && decide (o ≤ 65535)) && (decide (pr.data.toList = tcpL) || decide (pr.data.toList = udpL)) && (h.data.toList.isEmpty || addrB h.data.toList))) := Lib.hid hR.symm
  rw [hR]
  clear hR
  have HA := Lib.hid (fun w0 => RAddr_any h w0 hs)
  have B0 : Hid (∀ c, Below w.heap.size w (w.alloc c)) := Lib.hid (fun c => (Below.refl _ _).alloc (Nat.le_refl _) _)
  by_cases h1 : i < 1
  · have HE : Hid (R = false) := Lib.hid (by rw [HR.out, decide_eq_false (by omega)]; simp)
    clear HR
    go_enter Tryd.func11, Tryd.ntmps11
    go_wp2
    go_ret
    exact ⟨by rw [HE.out]; rfl, B0.out _⟩
  by_cases h2 : 65535 < i
  · have HE : Hid (R = false) := Lib.hid (by rw [HR.out, decide_eq_false (show ¬ i ≤ 65535 by omega)]; simp)
    clear HR
    go_enter Tryd.func11, Tryd.ntmps11
    go_wp2
    go_ret
    exact ⟨by rw [HE.out]; rfl, B0.out _⟩
  by_cases h3 : o < 0
  · have HE : Hid (R = false) := Lib.hid (by rw [HR.out, decide_eq_false (show ¬ 0 ≤ o by omega)]; simp)
    clear HR
    go_enter Tryd.func11, Tryd.ntmps11
    go_wp2
    go_ret
    exact ⟨by rw [HE.out]; rfl, B0.out _⟩
  by_cases h4 : 65535 < o
  · have HE : Hid (R = false) := Lib.hid (by rw [HR.out, decide_eq_false (show ¬ o ≤ 65535 by omega)]; simp)
    clear HR
    go_enter Tryd.func11, Tryd.ntmps11
    go_wp2
    go_ret
    exact ⟨by rw [HE.out]; rfl, B0.out _⟩
  have HNUM : Hid (R = ((decide (pr.data.toList = tcpL) || decide (pr.data.toList = udpL)) && (h.data.toList.isEmpty || addrB h.data.toList))) := Lib.hid (by
    rw [HR.out, decide_eq_true (show 1 ≤ i by omega), decide_eq_true (show i ≤ 65535 by omega), decide_eq_true (show 0 ≤ o by omega), decide_eq_true (show o ≤ 65535 by omega)]; rfl)
  clear HR
  have tail : ∀ q : ByteArray, (q = tcpS ∨ q = udpS) → Hid (R = (h.data.toList.isEmpty || addrB h.data.toList)) → Calls Tryd.prog 11 #[.agg #[.string h, .int .i64 o, .int .i64 i, .string q]] w fun e w' => e = .returned (.bool R) ∧ Below w.heap.size w w' := by
    intro q hq HE
    unfold tcpS udpS at hq
    by_cases hz : h.size = 0
    · have HF : Hid (R = true) := Lib.hid (by
        rw [HE.out, show h.data.toList = [] from List.length_eq_zero_iff.1 hz]; rfl)
      rcases hq with rfl | rfl <;> (
        go_enter Tryd.func11, Tryd.ntmps11
        go_wp2
        go_ret
        exact ⟨by rw [HF.out]; rfl, B0.out _⟩)
    · have e1 : ((h.size : Int) == 0) = false := beq_eq_false_iff_ne.2 (by omega)
      have HF : Hid (R = addrB h.data.toList) := Lib.hid (by
        rw [HE.out]
        have : h.data.toList.isEmpty = false := by
          rw [List.isEmpty_eq_false_iff]; intro e; apply hz; rw [show h.size = h.data.toList.length from rfl, e]; rfl
        rw [this, Bool.false_or])
      obtain ⟨X, hX⟩ : ∃ X, addrB h.data.toList = X := ⟨_, rfl⟩
      rw [hX] at HA HF
      clear hX
      obtain ⟨n, hn⟩ : ∃ n, h.size = n := ⟨_, rfl⟩
      rw [hn] at e1 hz
      have hzz : ¬ (n : Int) = 0 := by omega
      rcases hq with rfl | rfl <;> (
        go_enter Tryd.func11, Tryd.ntmps11
        go_wp2_with (go_at_call 26; refine (HA.out _).mono ?_; rintro e w3 ⟨rfl, hb⟩; have HB := Lib.hid hb; clear hb)
        go_ret
        exact ⟨by rw [HF.out]; rfl, (B0.out _).trans (HB.out.mono (by simp))⟩)
  by_cases hq1 : pr = tcpS
  · subst hq1
    exact tail _ (.inl rfl) (Lib.hid (by rw [HNUM.out]; rfl))
  by_cases hq2 : pr = udpS
  · subst hq2
    exact tail _ (.inr rfl) (Lib.hid (by rw [HNUM.out]; rfl))
  have f1 : ¬ pr.data.toList = tcpL := fun e => hq1 (ba_extP e)
  have f2 : ¬ pr.data.toList = udpL := fun e => hq2 (ba_extP e)
  have HE : Hid (R = false) := Lib.hid (by rw [HNUM.out, decide_eq_false f1, decide_eq_false f2]; rfl)
  have g1 : (pr.toList == [116, 99, 112]) = false := by rw [ByteArray.toList_eq]; exact beq_eq_false_iff_ne.2 f1
  have g2 : (pr.toList == [117, 100, 112]) = false := by rw [ByteArray.toList_eq]; exact beq_eq_false_iff_ne.2 f2
  clear HNUM f1 f2 hq1 hq2 tail
  go_enter Tryd.func11, Tryd.ntmps11
  go_wp2
  go_ret
  exact ⟨by rw [HE.out]; rfl, B0.out _⟩
end Go.Proofs.YtkgfinhepbipeaaDoor
