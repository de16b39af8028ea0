/- Chapter 16's third law: ports in order, the first two that clash, in every order the same. -/
import Derived.Test.YtkgfinhepbipeaaDoorPrtEnd
import Derived.Test.YtkgfinhepbipeaaDoorRefPrt10
namespace Go.Proofs.YtkgfinhepbipeaaDoor
open Go.RowKit Go.Sort
open Nw Dg P16 Go.ChangeShapes Go.WideShapes
set_option linter.unusedVariables false
theorem ret_t3 {a b : Int × Int × Bool} (h : a = b) : Ending.returned (.tuple #[.int .i64 a.1, .int .i64 a.2.1, .bool a.2.2]) = .returned (.tuple #[.int .i64 b.1, .int .i64 b.2.1, .bool b.2.2]) := by rw [h]
/-- Element j of the list is p, in every later world. -/
def Lasts (w : World) (b o j : Nat) (p : Po) : Prop := ∀ W, Below w.heap.size w W → At4 W b o j p
set_option maxRecDepth 100000 in
set_option maxHeartbeats 16000000 in
theorem PortLists_walk (l : List Po) (v : Value) (w : World) (hw : SomeMax w) (h : PR w v l) :
    Calls Tryd.prog 5 #[v] w fun e w' => e = .returned (.bool true) ∧ Below w.heap.size w w' := by
  have HA := Lib.hid (fun w0 h0 => awake16_any hprs hrgt htxt w0 h0)
  have HW := Lib.hid hw
  have HPR := Lib.hid h
  obtain ⟨a, cap, rfl, h1, h2, h3⟩ := h
  obtain ⟨n, hn⟩ : ∃ n, l.length = n := ⟨_, rfl⟩
  have HN := Lib.hid hn
  have H3 := Lib.hid h3
  rw [hn] at h1 HPR ⊢
  unfold maxLen at h2
  clear h3 hn hw
  by_cases hbig : 40 < n
  · have hz : (40 : Int) < (n : Int) := by omega
    go_enter Tryd.func5, Tryd.ntmps5
    go_wp2_with (go_at_call 6; refine (HA.out _ HW.out).mono ?_; rintro e w1 ⟨rfl, hb⟩; have HB := Lib.hid hb; clear hb)
    go_ret
    exact ⟨rfl, HB.out⟩
  have hz : ¬ (40 : Int) < (n : Int) := by omega
  have hle : Hid (l.length ≤ 100000) := Lib.hid (by rw [HN.out]; omega)
  obtain ⟨S, hS⟩ : ∃ S, Ol.srt lessP l = S := ⟨_, rfl⟩
  have HSL : Hid (S.length ≤ 100000) := Lib.hid (by rw [← hS]; exact Nat.le_trans (Ol.srt_len l) hle.out)
  have HSS : Hid (Ol.srt lessP S = S) := Lib.hid (by rw [← hS]; exact Ol.srt_srt less_strict l)
  obtain ⟨R1, R2, R3, hR⟩ : ∃ R1 R2 R3, firstP 0 l = (R1, R2, R3) := ⟨_, _, _, rfl⟩
  have HF1 : Hid (∀ W, Below w.heap.size w W → Calls Tryd.prog 13 #[.slice a n cap] W fun e w' => e = .returned (.tuple #[.int .i64 R1, .int .i64 R2, .bool R3]) ∧ Below w.heap.size w w') := Lib.hid (fun W hW => by
    have := First_any _ l W (HPR.out.below hW) hle.out
    rw [hR] at this
    exact this.mono fun e w' ⟨e1, e2⟩ => ⟨e1, hW.trans (e2.mono hW.size)⟩)
  have HF2 : Hid (∀ W, Below w.heap.size w W → Calls Tryd.prog 14 #[.slice a n cap] W fun e w' => e = .returned (.tuple #[.int .i64 R1, .int .i64 R2, .bool R3]) ∧ Below w.heap.size w w') := Lib.hid (fun W hW => by
    have := RFirst_any _ l W (HPR.out.below hW) hle.out
    rw [hR] at this
    exact this.mono fun e w' ⟨e1, e2⟩ => ⟨e1, hW.trans (e2.mono hW.size)⟩)
  have HS1 : Hid (∀ W, Below w.heap.size w W → Calls Tryd.prog 15 #[.slice a n cap] W fun e w' => ∃ v', e = .returned v' ∧ PR w' v' S ∧ Below W.heap.size W w') := Lib.hid (fun W hW => by
    have := Sorted16_any _ l W (HPR.out.below hW) hle.out
    rw [hS] at this
    exact this)
  have HS2 : Hid (∀ W, Below w.heap.size w W → Calls Tryd.prog 17 #[.slice a n cap] W fun e w' => ∃ v', e = .returned v' ∧ PR w' v' S ∧ Below W.heap.size W w') := Lib.hid (fun W hW => by
    have := RSorted16_any _ l W (HPR.out.below hW) hle.out
    rw [hS] at this
    exact this)
  have HS3 : Hid (∀ v1 W, PR W v1 S → Calls Tryd.prog 15 #[v1] W fun e w' => ∃ v', e = .returned v' ∧ PR w' v' S ∧ Below W.heap.size W w') := Lib.hid (fun v1 W hv => by
    have := Sorted16_any v1 S W hv HSL.out
    rw [HSS.out] at this
    exact this)
  have HSM : Hid (∀ v1 v2 W, PR W v1 S → PR W v2 S → Calls Tryd.prog 16 #[v1, v2] W fun e w' => e = .returned (.bool true) ∧ Below W.heap.size W w') := Lib.hid (fun v1 v2 W k1 k2 => RSame_eq v1 v2 S W k1 k2 HSL.out)
  have HRV : Hid (∀ v1 W, PR W v1 l.reverse → Calls Tryd.prog 13 #[v1] W fun e w' => (∃ x y, e = .returned (.tuple #[.int .i64 x, .int .i64 y, .bool R3])) ∧ Below W.heap.size W w') := Lib.hid (fun v1 W hv => by
    refine (First_any v1 l.reverse W hv (by rw [List.length_reverse]; exact hle.out)).mono ?_
    rintro e w' ⟨rfl, hb⟩
    have e3 : (firstP 0 l.reverse).2.2 = R3 := by rw [firstP_any, anyC_rev, ← firstP_any 0 l, hR]
    exact ⟨⟨(firstP 0 l.reverse).1, (firstP 0 l.reverse).2.1, by rw [e3]⟩, hb⟩)
  have q1 : (R1 == R1) = true := beq_self_eq_true _
  have q2 : (R2 == R2) = true := beq_self_eq_true _
  have q3 : (R3 == R3) = true := beq_self_eq_true _
  have q4 : (R1 != R1) = false := by rw [bne, q1]; rfl
  have q5 : (R2 != R2) = false := by rw [bne, q2]; rfl
  have q6 : (R3 != R3) = false := by rw [bne, q3]; rfl
  clear hS hR
  have HB0 := Lib.hid (Below.refl w.heap.size w)
  go_enter Tryd.func5, Tryd.ntmps5
  go_upto_region 6 with (first
    | (go_at_call 13; refine (HF1.out _ HB0.out).mono ?_; rintro e w1 ⟨rfl, hb⟩; have HB1 := Lib.hid hb; clear hb)
    | (go_at_call 14; refine (HF2.out _ HB1.out).mono ?_; rintro e w2 ⟨rfl, hb⟩; have HB2 := Lib.hid hb; clear hb)
    | (go_at_call 15; refine (HS1.out _ HB2.out).mono ?_; rintro e w3 ⟨v3, rfl, hp, hb⟩; have HP3 := Lib.hid hp; have HB3 := Lib.hid (HB2.out.trans (hb.mono HB2.out.size)); clear hb hp))
  go_wp2_with first
    | (go_at_call 17; refine (HS2.out _ HB3.out).mono ?_; rintro e w4 ⟨v4, rfl, hp, hb⟩; have HP4 := Lib.hid hp; replace HP3 := Lib.hid (HP3.out.below hb); have HB4 := Lib.hid (HB3.out.trans (hb.mono HB3.out.size)); clear hb hp)
    | (go_at_call 16; (with_reducible refine (HSM.out v3 v4 _ HP3.out HP4.out).mono ?_); rintro e w5 ⟨rfl, hb⟩; replace HP3 := Lib.hid (HP3.out.below hb); have HB5 := Lib.hid (HB4.out.trans (hb.mono HB4.out.size)); clear hb)
    | (go_at_call 15; refine (HS3.out v3 _ HP3.out).mono ?_; rintro e w6 ⟨v5, rfl, hp, hb⟩; have HP5 := Lib.hid hp; replace HP3 := Lib.hid (HP3.out.below hb); have HB6 := Lib.hid (HB5.out.trans (hb.mono HB5.out.size)); clear hb hp)
    | (go_at_call 16; (with_reducible refine (HSM.out v5 v3 _ HP5.out HP3.out).mono ?_); rintro e w7 ⟨rfl, hb⟩; have HB7 := Lib.hid (HB6.out.trans (hb.mono HB6.out.size)); clear hb)
  clear HP3 HP4 HP5 HSM HS1 HS2 HS3 HF1 HF2
  go_loopw [10] (fun s10 wr => ∃ k : Nat, 1 ≤ k ∧ (k ≤ n ∨ k = 1) ∧ s10 = .int .i64 (k : Int) ∧ Hid (Below w.heap.size w wr)) (fun s10 _ => n - (intOf s10).toNat)
  case atStart => exact ⟨1, Nat.le_refl _, .inr rfl, rfl, HB7⟩
  case round =>
    obtain ⟨k, hk1, hk2, rfl, HB⟩ := hrel
    by_cases hlt : k < n
    · have hkl : Hid (k < l.length) := Lib.hid (by rw [HN.out]; exact hlt)
      have hkl1 : Hid (k - 1 < l.length) := Lib.hid (by rw [HN.out]; omega)
      rcases H3.out with ⟨h0, _⟩ | ⟨b, o, rfl, hb, hat⟩
      · exact absurd hkl.out (by rw [h0]; exact Nat.not_lt_zero _)
      obtain ⟨p, hp⟩ : ∃ p, l[k - 1]'hkl1.out = p := ⟨_, rfl⟩
      obtain ⟨q, hq⟩ : ∃ q, l[k]'hkl.out = q := ⟨_, rfl⟩
      have HKP : Hid (∀ W, Below w.heap.size w W → (W.cell? ⟨b, o + (k - 1) * 4, none⟩ = some (.string (ba p.host)) ∧ W.cell? ⟨b, o + (k - 1) * 4 + 1, none⟩ = some (.int .i64 p.out) ∧ W.cell? ⟨b, o + (k - 1) * 4 + 2, none⟩ = some (.int .i64 p.inn) ∧ W.cell? ⟨b, o + (k - 1) * 4 + 3, none⟩ = some (.string (ba p.proto))) ∧ (W.cell? ⟨b, o + k * 4, none⟩ = some (.string (ba q.host)) ∧ W.cell? ⟨b, o + k * 4 + 1, none⟩ = some (.int .i64 q.out) ∧ W.cell? ⟨b, o + k * 4 + 2, none⟩ = some (.int .i64 q.inn) ∧ W.cell? ⟨b, o + k * 4 + 3, none⟩ = some (.string (ba q.proto)))) := Lib.hid (fun W hW => by
        have c1 := (hat (k - 1) hkl1.out).below hb hW
        have c2 := (hat k hkl.out).below hb hW
        rw [hp] at c1
        rw [hq] at c2
        exact ⟨c1, c2⟩)
      clear hat hb hp hq
      have hkz : (k : Int) < (n : Int) := by omega
      have z1 : (0 : Int) ≤ (k : Int) - 1 := by omega
      have z2 : ((k : Int) - 1).toNat = k - 1 := by omega
      have z3 : k - 1 < n := by omega
      have z4 : (1 : Int) ≤ (k : Int) := by omega
      have z5 : (k : Int) - 1 < (n : Int) := by omega
      have z6 : IntKind.i64.wrap ((k : Int) - 1) = (k : Int) - 1 := IntWalk.i64_in _ (by omega)
      have kw : IntKind.i64.wrap ((k : Int) + 1) = (k : Int) + 1 := IntWalk.i64_in _ (by omega)
      obtain ⟨C, hC⟩ : ∃ C, clashB p q = C := ⟨_, rfl⟩
      have HC1 := Lib.hid (fun w0 => clash_val p q w0)
      have HC2 := Lib.hid (fun w0 => clash_val q p w0)
      have HC3 := Lib.hid (fun w0 => rclash_val p q w0)
      rw [clash_sym q p, hC] at HC2
      rw [hC] at HC1 HC3
      unfold valP at HC1 HC2
      clear hC
      have t1 : (C == C) = true := beq_self_eq_true _
      have t2 : (C != C) = false := by rw [bne, t1]; rfl
      have HS := HKP.out _ HB.out
      go_wp2_with fail
      go_region_held3 (fun W => (W.cell? ⟨b, o + (k - 1) * 4, none⟩ = some (.string (ba p.host)) ∧ W.cell? ⟨b, o + (k - 1) * 4 + 1, none⟩ = some (.int .i64 p.out) ∧ W.cell? ⟨b, o + (k - 1) * 4 + 2, none⟩ = some (.int .i64 p.inn) ∧ W.cell? ⟨b, o + (k - 1) * 4 + 3, none⟩ = some (.string (ba p.proto))) ∧ (W.cell? ⟨b, o + k * 4, none⟩ = some (.string (ba q.host)) ∧ W.cell? ⟨b, o + k * 4 + 1, none⟩ = some (.int .i64 q.out) ∧ W.cell? ⟨b, o + k * 4 + 2, none⟩ = some (.int .i64 q.inn) ∧ W.cell? ⟨b, o + k * 4 + 3, none⟩ = some (.string (ba q.proto)))) (first | exact HS | assumption | exact HKP.out _ HBx.out)
        (first
          | (go_at_call 18; (with_reducible refine (HC1.out _).mono ?_); rintro e w' ⟨rfl, hb⟩; have HBx : Hid (Below w.heap.size w w') := Lib.hid (by first | exact HBx.out.trans (hb.mono HBx.out.size) | exact HB.out.trans (hb.mono HB.out.size) | exact HB.out.drew.trans (hb.mono HB.out.size)); clear hb)
          | (go_at_call 18; (with_reducible refine (HC2.out _).mono ?_); rintro e w' ⟨rfl, hb⟩; have HBx : Hid (Below w.heap.size w w') := Lib.hid (by first | exact HBx.out.trans (hb.mono HBx.out.size) | exact HB.out.trans (hb.mono HB.out.size) | exact HB.out.drew.trans (hb.mono HB.out.size)); clear hb)
          | (go_at_call 19; (with_reducible refine (HC3.out _).mono ?_); rintro e w' ⟨rfl, hb⟩; have HBx : Hid (Below w.heap.size w w') := Lib.hid (by first | exact HBx.out.trans (hb.mono HBx.out.size) | exact HB.out.trans (hb.mono HB.out.size) | exact HB.out.drew.trans (hb.mono HB.out.size)); clear hb))
      clear HS HC1 HC2 HC3 HKP
      go_wp2
      go_roundw
      case rel => exact ⟨k + 1, by omega, .inl (by omega), by go_num, HBx⟩
      case measure => simp [intOf]; omega
    · have hkz : ¬ (k : Int) < (n : Int) := by omega
      obtain ⟨i0, hi, hz0, hz1, hz2⟩ := infoP
      have kn : IntKind.i64.wrap ((n : Int) - 1) = (n : Int) - 1 := IntWalk.i64_in _ (by omega)
      clear hk2
      go_wp2
      go_loopw [11, 12] (fun s11 s12 wr => ∃ (m : Nat) (ez : Int), m ≤ n ∧ s12 = .int .i64 ez ∧ ez + 1 + (m : Int) = (n : Int) ∧ Hid (wr.ownsRow w.heap.size 24 4 s11 m (cellsP (l.reverse.take m))) ∧ Hid (Below w.heap.size w wr)) (fun _ s12 _ => (intOf s12 + 1).toNat)
      case atStart => exact ⟨0, (n : Int) - 1, Nat.zero_le _, rfl, by omega, Lib.hid (World.ownsRow_nil _ _ _ _), HB⟩
      case round =>
        obtain ⟨m, ez, hm, rfl, hez, HO, HBm⟩ := hrel
        by_cases hmn : m < n
        · have he0 : (0 : Int) ≤ ez := by omega
          obtain ⟨e, he⟩ : ∃ e : Nat, ez = (e : Int) := ⟨ez.toNat, by omega⟩
          subst he
          have hel : Hid (e < l.length) := Lib.hid (by rw [HN.out]; omega)
          have hml : Hid (m < l.reverse.length) := Lib.hid (by rw [List.length_reverse, HN.out]; omega)
          have hen : e < n := by omega
          have henz : (e : Int) < (n : Int) := by omega
          have kw : IntKind.i64.wrap ((e : Int) - 1) = (e : Int) - 1 := IntWalk.i64_in _ (by omega)
          rcases H3.out with ⟨h0, _⟩ | ⟨b, o, rfl, hb, hat⟩
          · exact absurd hel.out (by rw [h0]; exact Nat.not_lt_zero _)
          obtain ⟨y, hy⟩ : ∃ y, l[e]'hel.out = y := ⟨_, rfl⟩
          have hc := (hat e hel.out).below hb HBm.out
          rw [hy] at hc
          obtain ⟨y0, y1, y2, y3⟩ := hc
          have HXX : Hid (cellsP (l.reverse.take (m + 1)) = cellsP (l.reverse.take m) ++ encP y) := Lib.hid (by
            have e1 : l.reverse[m]'hml.out = y := by
              rw [List.getElem_reverse, ← hy]
              congr 1
              have := HN.out
              omega
            rw [List.take_succ_eq_append_getElem hml.out, cellsP_app, e1]
            simp [cellsP])
          clear hat hy
          obtain ⟨XS, hXS⟩ : ∃ XS, XS = cellsP (l.reverse.take m) := ⟨_, rfl⟩
          have hown := HO.out
          rw [← hXS] at hown
          have HXS := Lib.hid hXS
          have HEZ := Lib.hid hez
          clear hXS hez
          go_wp2_with (at_builtin; refine wpList_append_own _ rfl _ _ 31 rfl w.heap.size 24 i0 zeroP 4 48 Tryd.underlying31 hi hz0 hz1 hz2 (by kernel_rfl) (by decide) _ _ _ rfl (hown.alloc _) ⟨wr.heap.size, 0, none⟩ 1 1 (encP y) rfl ?c1 ?c2 ?c3 ?c4 ?c5 ?c6 ?_)
          case c1 => rfl
          case c2 =>
            intro t u ht
            match t, ht with
            | 0, ht => injection ht with ht; rw [← ht]; simp [Addr.add]
            | 1, ht => injection ht with ht; rw [← ht]; simp [Addr.add]
            | 2, ht => injection ht with ht; rw [← ht]; simp [Addr.add]
            | 3, ht => injection ht with ht; rw [← ht]; simp [Addr.add]
          case c3 => exact encP_one y
          case c4 => unfold maxLen; omega
          case c5 => omega
          case c6 => have := HBm.out.size; simp; omega
          · intro v' w2 hown' hgrow _
            have HW2 := Lib.hid hown'
            have HG2 := Lib.hid hgrow
            clear hown' hgrow hown
            go_wp2
            go_roundw
            case measure => simp [intOf]
            case rel =>
              refine ⟨m + 1, (e : Int) - 1, by omega, rfl, by have := HEZ.out; omega, Lib.hid ?_, Lib.hid ?_⟩
              · rw [HXX.out, ← HXS.out]; exact HW2.out
              · refine (HBm.out.alloc HBm.out.size _).grown HG2.out (by have := HBm.out.size; simp; omega) ?_
                intro p hp
                exact (HO.out.lt p hp).1
        · have hem : ¬ (0 : Int) ≤ ez := by omega
          have hmn2 : m = n := by omega
          have HPB : Hid (PR wr u11 l.reverse) := Lib.hid (by
            have := (pr_of_owns HO.out).1
            rwa [List.take_of_length_le (by rw [List.length_reverse, HN.out]; omega)] at this)
          clear hmn2
          go_wp2_with first
            | (go_at_call 13; refine (HRV.out _ _ HPB.out).mono ?_; rintro e w8 ⟨⟨x, y, rfl⟩, hb⟩; have HB8 := Lib.hid (HBm.out.trans (hb.mono HBm.out.size)); clear hb)
            | (go_at_call 6; refine (HA.out _ (HW.out.keep HB8.out)).mono ?_; rintro e w9 ⟨rfl, hb⟩; have HB9 := Lib.hid (HB8.out.trans (hb.mono HB8.out.size)); clear hb)
          go_ret
          exact ⟨by first | rfl | simp, HB9.out⟩
end Go.Proofs.YtkgfinhepbipeaaDoor
