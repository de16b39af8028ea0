/- The contract of Split: words from the beginning until nothing is left. -/
import Derived.Test.YtfafoognjodeiaaDoorWrdScn
import Derived.Lib.SlTrimSet
namespace Go.Proofs.YtfafoognjodeiaaDoor
open Go.RowKit Go.Sort
open Nw W15
set_option linter.unusedVariables false
/-- TrimLeft at the two blanks. -/
theorem trim_any (s : ByteArray) (W : World) : Calls Tryd.prog 15 #[.string s, .string ⟨#[32, 9]⟩] W fun e w' => (∃ q : ByteArray, e = .returned (.string q) ∧ q.data.toList = Lib.trimLeftS s.data.toList [32, 9]) ∧ Below W.heap.size W w' := by
  refine (Tryd.strings_TrimLeft_ascii s ⟨#[32, 9]⟩ W (by decide) (ascii_of_all (by decide))).mono ?_
  rintro e w' ⟨rfl, hb⟩
  exact ⟨⟨_, rfl, by simp⟩, hb⟩
/-- What is left begins with no blank. -/
def Fresh (q : ByteArray) : Prop := q.data.toList = [] ∨ ∃ c t, q.data.toList = c :: t ∧ isBl c = false
/-- The words so far, at most 33 of them kept. -/
def SpS (w0 W : World) (v : Value) (L : List L8) : Prop := Below w0.heap.size w0 W ∧ W.ownsRow w0.heap.size 9 1 v (L.take 33).length ((L.take 33).map encStr)
theorem SpS.below {w0 W W2 : World} {v : Value} {L : List L8} (h : SpS w0 W v L) (hb : Below W.heap.size W W2) : SpS w0 W2 v L := ⟨h.1.trans (hb.mono h.1.size), own_belW h.2 hb⟩
theorem SpS.over {w0 W : World} {v : Value} {L : List L8} (h : SpS w0 W v L) (hl : 33 ≤ L.length) (x : L8) : SpS w0 W v (L ++ [x]) := by
  unfold SpS at h ⊢
  rw [List.take_append_of_le_length hl]; exact h
theorem SpS.more {w0 W W3 : World} {v v' : Value} {L : List L8} {q : ByteArray} (h : SpS w0 W v L) (hl : L.length ≤ 32) {o : Obj} (hown : W3.ownsRow w0.heap.size 9 1 v' ((L.take 33).length + 1) ((L.take 33).map encStr ++ [.string q])) (hg : (W.alloc o).grownBy W3 v.ownBlock) : SpS w0 W3 v' (L ++ [q.data.toList]) := by
  have h33 : L.take 33 = L := List.take_of_length_le (by omega)
  have h34 : (L ++ [q.data.toList]).take 33 = L ++ [q.data.toList] := List.take_of_length_le (by rw [List.length_append, List.length_singleton]; omega)
  unfold SpS at h ⊢
  rw [h33] at hown h
  rw [h34]
  refine ⟨(h.1.alloc h.1.size o).grown hg (by have := h.1.size; simp; omega) fun q hq => (h.2.lt q hq).1, ?_⟩
  rw [List.length_append, List.map_append]
  have e : [q.data.toList].map encStr = [Value.string q] := by simp [encStr]
  rw [e]; exact hown
theorem scan_none {s : ByteArray} (hs : s.size ≤ 200000) {c : UInt8} {t : L8} (hl : s.data.toList = c :: t) (hb : isBl c = false) (h : sc [] s.data.toList = none) : T none s.data.toList = none ∧ ∀ W, Calls Tryd.prog 16 #[.string s] W fun e w' => e = .returned (.tuple #[.string ⟨#[]⟩, .int .i64 0, .bool false]) ∧ Below W.heap.size W w' := by
  refine ⟨by rw [hl] at h ⊢; exact sc_none hb h, fun W => ?_⟩
  have := scan_any s W hs
  rw [h] at this
  exact this
theorem scan_some {s : ByteArray} (hs : s.size ≤ 200000) {c : UInt8} {t : L8} (hl : s.data.toList = c :: t) (hb : isBl c = false) {p r : L8} (h : sc [] s.data.toList = some (p, r)) :
    ∃ (q1 : ByteArray) (k : Nat), q1.data.toList = p ∧ 0 < k ∧ k ≤ s.size ∧ s.data.toList.drop k = r ∧ T none s.data.toList = (T none r).map (p :: ·) ∧ ∀ W, Calls Tryd.prog 16 #[.string s] W fun e w' => e = .returned (.tuple #[.string q1, .int .i64 (k : Int), .bool true]) ∧ Below W.heap.size W w' := by
  have h2 := h
  rw [hl] at h2
  obtain ⟨h3, m, h4, h5, h6, h7⟩ := sc_some hb h2
  rw [← hl] at h3 h4 h5
  have hsz : s.data.toList.length = s.size := rfl
  refine ⟨⟨p.toArray⟩, m, by simp, h7, by omega, h4.symm, h3, fun W => (scan_any s W hs).mono ?_⟩
  rw [h]
  rintro e w' ⟨⟨q, k, e1, e2, e3, rfl⟩, hb2⟩
  refine ⟨?_, hb2⟩
  have hq : q = ⟨p.toArray⟩ := bytes_extW (by rw [e1])
  have hk : k = m := by
    have l1 : (s.data.toList.drop k).length = s.size - k := by rw [List.length_drop, hsz]
    have l2 : (s.data.toList.drop m).length = s.size - m := by rw [List.length_drop, hsz]
    rw [e3, h4] at l1
    omega
  rw [hq, hk]
/-- A string's length. -/
def strZ : Value → Nat | .string b => b.size | _ => 0
set_option maxRecDepth 100000 in
set_option maxHeartbeats 16000000 in
theorem Split15_any (s : ByteArray) (w : World) (hs : s.size ≤ 200000) : Calls Tryd.prog 7 #[.string s] w fun e w' => ∃ v, e = .returned (.tuple #[v, .int .i64 (errW s.data.toList)]) ∧ Rd w' v (wordsW s.data.toList) ∧ Below w.heap.size w w' := by
  obtain ⟨i0, hi, hz0, hz1, hz2⟩ := infoSW
  obtain ⟨R, hR⟩ : ∃ R, T none s.data.toList = R := ⟨_, rfl⟩
  have HA : Hid ((R = none → errW s.data.toList = 3 ∧ wordsW s.data.toList = []) ∧ ∀ ws, R = some ws → (32 < ws.length → errW s.data.toList = 9 ∧ wordsW s.data.toList = []) ∧ (¬ 32 < ws.length → errW s.data.toList = 0 ∧ wordsW s.data.toList = ws)) := Lib.hid (by
    unfold errW wordsW
    rw [hR]
    refine ⟨fun e => by rw [e]; exact ⟨rfl, rfl⟩, fun ws e => ?_⟩
    rw [e]
    exact ⟨fun h => ⟨if_pos h, if_pos h⟩, fun h => ⟨if_neg h, if_neg h⟩⟩)
  obtain ⟨EW, hEW⟩ : ∃ EW, errW s.data.toList = EW := ⟨_, rfl⟩
  obtain ⟨WW, hWW⟩ : ∃ WW, wordsW s.data.toList = WW := ⟨_, rfl⟩
  rw [hEW, hWW] at HA
  rw [hEW, hWW]
  have HT := Lib.hid (trim_any s w)
  have HR := Lib.hid hR
  have hs0 := hs
  clear hR hEW hWW
  go_enter Tryd.func7, Tryd.ntmps7
  go_wp2_with fail
  refine HT.out.mono ?_
  rintro e w1 ⟨⟨q, rfl, hq⟩, b1⟩
  have HQ0 : Hid ((T none q.data.toList).map (([] : List L8) ++ ·) = R ∧ Fresh q) := Lib.hid (by
    obtain ⟨h1, h2, h3⟩ := trim_T s.data.toList
    rw [← hq] at h1 h3
    refine ⟨?_, h3⟩
    rw [h1, HR.out]
    cases R <;> rfl)
  have hqs : q.size ≤ 200000 := by
    have h2 := (trim_T s.data.toList).2.1
    rw [← hq] at h2
    have h4 : q.data.toList.length = q.size := rfl
    have h5 : s.data.toList.length = s.size := rfl
    omega
  have HS0 : Hid (SpS w w1 (.slice none 0 0) []) := Lib.hid ⟨b1, owns_nil _ _ _⟩
  clear b1 hq HT HR hs0
  go_wp2
  go_loopw [4, 5] (fun v4 s5 wr => ∃ (L : List L8) (q : ByteArray), q.size ≤ 200000 ∧ s5 = .string q ∧ Hid (SpS w wr v4 L) ∧ Hid ((T none q.data.toList).map (L ++ ·) = R ∧ Fresh q)) (fun _ s5 _ => strZ s5)
  case atStart => exact ⟨[], q, hqs, rfl, HS0, HQ0⟩
  case round =>
    clear HS0 HQ0 hqs
    obtain ⟨L, q, hqs, rfl, HS, HQ⟩ := hrel
    obtain ⟨m, hm⟩ : ∃ m, (L.take 33).length = m := ⟨_, rfl⟩
    obtain ⟨XS, hXS⟩ : ∃ XS, (L.take 33).map encStr = XS := ⟨_, rfl⟩
    have hown4 := HS.out.2
    rw [hm, hXS] at hown4
    have HM := Lib.hid hm
    have HXS := Lib.hid hXS
    have hm33 : m ≤ 33 := by rw [← hm, List.length_take]; omega
    have HML : Hid (m ≤ 32 ↔ L.length ≤ 32) := Lib.hid (by rw [← hm, List.length_take]; omega)
    clear hm hXS
    obtain ⟨b4, c4, he4⟩ := own_shapeW hown4
    subst he4
    obtain ⟨n, hn⟩ : ∃ n, q.size = n := ⟨_, rfl⟩
    have HSN := Lib.hid hn
    by_cases h0 : n = 0
    · have he : q.toList.isEmpty = true := emp_yesW (by omega)
      have HE : Hid (R = some L) := Lib.hid (by
        have h1 := HQ.out.1
        rw [show q.data.toList = [] from List.length_eq_zero_iff.1 (by show q.size = 0; omega), T_nil] at h1
        rw [← h1]; simp)
      clear h0 hn hqs
      by_cases hb : m ≤ 32
      · have hbz : ¬ (32 : Int) < (m : Int) := by omega
        have HF := Lib.hid ((HA.out.2 L HE.out).2 (by have := HML.out.1 hb; omega))
        have HR2 := Lib.hid (rd_of_owns HS.out.2)
        go_wp2
        go_ret2
        exact ⟨.slice b4 m c4, by rw [HF.out.1]; rfl, by rw [HF.out.2]; have h9 := HR2.out; rw [List.take_of_length_le (by have := HML.out.1 hb; omega)] at h9; exact h9, HS.out.1⟩
      · have hbz : (32 : Int) < (m : Int) := by omega
        have HF := Lib.hid ((HA.out.2 L HE.out).1 (by have := HML.out; omega))
        go_wp2
        go_ret2
        exact ⟨.slice none 0 0, by rw [HF.out.1]; rfl, by rw [HF.out.2]; exact ⟨none, 0, rfl, Nat.le_refl _, Nat.zero_le _, .inl ⟨rfl, fun _ => rfl⟩⟩, HS.out.1⟩
    · have he : q.toList.isEmpty = false := emp_noW (by omega)
      obtain ⟨c, t, hct, hcb⟩ : ∃ c t, q.data.toList = c :: t ∧ isBl c = false := by
        rcases HQ.out.2 with e | e
        · exfalso
          have : q.data.toList.length = q.size := rfl
          rw [e, List.length_nil] at this
          omega
        · exact e
      cases hsc : sc [] q.data.toList with
      | none =>
        obtain ⟨hT, hC⟩ := scan_none hqs hct hcb hsc
        have HC := Lib.hid hC
        have HF : Hid (EW = 3 ∧ WW = []) := Lib.hid (HA.out.1 (by have h1 := HQ.out.1; rw [hT] at h1; rw [← h1]; rfl))
        clear hsc hct hT hC h0 hcb hn hqs
        go_wp2_with (go_at_call 16; refine (HC.out _).mono ?_; rintro e w2 ⟨rfl, b2⟩; have HB2 := Lib.hid b2; clear b2)
        go_ret2
        exact ⟨.slice none 0 0, by rw [HF.out.1]; rfl, by rw [HF.out.2]; exact ⟨none, 0, rfl, Nat.le_refl _, Nat.zero_le _, .inl ⟨rfl, fun _ => rfl⟩⟩, HS.out.1.trans (HB2.out.mono HS.out.1.size)⟩
      | some pr =>
        obtain ⟨p, r⟩ := pr
        obtain ⟨q1, k, e1, e2, e3, e4, hT, hC⟩ := scan_some hqs hct hcb hsc
        have HC := Lib.hid hC
        obtain ⟨Z, hZ⟩ : ∃ Z, q.extract k n = Z := ⟨_, rfl⟩
        have hZl : Z.data.toList = r := by
          rw [← hZ, ext_takeW, List.take_of_length_le, e4]
          rw [List.length_drop, show q.data.toList.length = q.size from rfl, hn]
          exact Nat.le_refl _
        have HTZ := Lib.hid (trim_any Z)
        rw [hZl] at HTZ
        have HNX : Hid (∀ q2 : ByteArray, q2.data.toList = Lib.trimLeftS r [32, 9] → ((T none q2.data.toList).map ((L ++ [p]) ++ ·) = R ∧ Fresh q2) ∧ q2.size < n) := Lib.hid (by
          intro q2 h2
          obtain ⟨t1, t2, t3⟩ := trim_T r
          have h1 := HQ.out.1
          rw [hT] at h1
          refine ⟨⟨?_, by unfold Fresh; rw [h2]; exact t3⟩, ?_⟩
          · rw [h2, t1, ← h1]
            cases T none r <;> simp
          · have l2 : q2.data.toList.length = q2.size := rfl
            have l3 : r.length = n - k := by rw [← e4, List.length_drop, show q.data.toList.length = q.size from rfl, hn]
            rw [h2] at l2
            omega)
        have hkn : k ≤ n := by omega
        have hkz : (k : Int) ≤ (n : Int) := by omega
        have HE1 := Lib.hid e1
        have hn2 : n ≤ 200000 := by omega
        clear hsc hct hT hC hZl e1 e2 e3 e4 hcb h0 hqs
        by_cases hb : m ≤ 32
        · have hbz : (m : Int) ≤ 32 := by omega
          go_wp2_with fail
          refine (HC.out _).mono ?_
          rintro e w2 ⟨rfl, b2⟩
          have HS2 := Lib.hid (HS.out.below b2)
          have hown5 := own_belW hown4 b2
          clear b2 hown4
          go_wp2_with first
            | (at_builtin; refine wpList_append_own _ rfl _ _ 23 rfl w.heap.size 9 i0 _ 1 16 Tryd.underlying23 hi hz0 hz1 hz2 rfl (by decide) _ _ _ rfl (hown5.alloc _) ⟨_, 0, none⟩ 1 1 [.string q1] rfl rfl ?c1 ?c2 ?c3 ?c4 ?c5 ?_)
          case c1 => exact cells_new _ _ _
          case c2 => first | rfl | (intro x hx; simp at hx; subst hx; rfl)
          case c3 => unfold maxLen; omega
          case c4 => omega
          case c5 => have := HS2.out.1.size; simp; omega
          intro v' w3 hown' hgrow _
          have HS3 := Lib.hid (HS2.out.more (q := q1) (HML.out.1 hb) (by rw [HM.out, HXS.out]; exact hown') hgrow)
          rw [HE1.out] at HS3
          clear hown' hgrow hown5
          go_wp2_with fail
          refine (HTZ.out _).mono ?_
          rintro e w4 ⟨⟨q2, rfl, hq2⟩, b4⟩
          have HS4 := Lib.hid (HS3.out.below b4)
          have HN := Lib.hid (HNX.out q2 hq2)
          have hq2s := HN.out.2
          clear b4 hq2
          go_wp2
          go_roundw
          case rel => exact ⟨L ++ [p], q2, by omega, rfl, HS4, Lib.hid HN.out.1⟩
          case measure => simp [strZ]; have := HSN.out; omega
        · have hbz : ¬ (m : Int) ≤ 32 := by omega
          go_wp2_with fail
          refine (HC.out _).mono ?_
          rintro e w2 ⟨rfl, b2⟩
          have HS3 := Lib.hid ((HS.out.below b2).over (by have := HML.out; omega) p)
          clear b2 hown4
          go_wp2_with fail
          refine (HTZ.out _).mono ?_
          rintro e w4 ⟨⟨q2, rfl, hq2⟩, b4⟩
          have HS4 := Lib.hid (HS3.out.below b4)
          have HN := Lib.hid (HNX.out q2 hq2)
          have hq2s := HN.out.2
          clear b4 hq2
          go_wp2
          go_roundw
          case rel => exact ⟨L ++ [p], q2, by omega, rfl, HS4, Lib.hid HN.out.1⟩
          case measure => simp [strZ]; have := HSN.out; omega
end Go.Proofs.YtfafoognjodeiaaDoor
