/- The contract of the document's own Parse. -/
import Derived.Test.YtegljoikdfjepaaDoorRefDur2
namespace Go.Proofs.YtegljoikdfjepaaDoor
open Go.RowKit
open Dg
set_option linter.unusedVariables false
theorem Rgroup_q (s hd q : ByteArray) (u : Nat) (o : Bool) (w : World) (hs : s.size ≤ maxLen) (h1 : rH s.data.toList = hd.data.toList) (h2 : uI (tlD s.data.toList) = u) (h3 : uR (tlD s.data.toList) = q.data.toList) (h4 : rO s.data.toList = o) :
    Calls Tryd.prog 19 #[.string s] w fun e w' => e = .returned (.tuple #[.string hd, .int .i64 (u : Int), .string q, .bool o]) ∧ Below w.heap.size w w' :=
  (Rgroup_any s w hs).mono fun e w' ⟨g1, g2⟩ => ⟨by rw [g1, mk_of h1, h2, mk_of h3, h4], g2⟩
theorem RValue_q (hd : ByteArray) (n : Int) (w : World) (hs : hd.size ≤ maxLen) (hdg : digs hd.data.toList = true) (hn : capN hd.data.toList = n) :
    Calls Tryd.prog 20 #[.string hd] w fun e w' => e = .returned (.int .i64 n) ∧ w = w' :=
  (RValue_any hd w hs hdg).mono fun e w' ⟨g1, g2⟩ => ⟨by rw [g1, hn], g2⟩
def P4 (d : Array Int) : Nat → Int
  | 0 => 0
  | 1 => d[0]! * 3600000
  | 2 => d[0]! * 3600000 + d[1]! * 60000
  | 3 => d[0]! * 3600000 + d[1]! * 60000 + d[2]! * 1000
  | _ => S4 d
theorem holds_longs (w : World) (ty : TypeId) : Sort.Holds encI (w.alloc (.cells #[.int .i64 3600000, .int .i64 60000, .int .i64 1000, .int .i64 1] ty)) w.heap.size 0 #[3600000, 60000, 1000, 1] := by
  intro j hj
  have hj' : j < 4 := hj
  rw [Nat.zero_add]
  constructor
  · rw [World.cell?_alloc_at _ _ _ _ rfl]
    match j, hj' with
    | 0, _ => rfl
    | 1, _ => rfl
    | 2, _ => rfl
    | 3, _ => rfl
  · exact World.frozen?_alloc_at _ _ _ _ rfl
theorem belowDr {w w2 : World} {B : Nat} (h : Below B w w2) (n : Nat) : Below B w (w2.drewN n) := ⟨h.os, h.tape, h.output, h.size, h.block⟩
theorem rH_len (l : List UInt8) : (rH l).length ≤ l.length := by
  unfold rH
  split
  · simp
  · have := congrArg List.length (hd_tl l); rw [List.length_append] at this; omega

set_option maxHeartbeats 4000000 in
theorem RDParse_any (s : ByteArray) (w : World) (hs : s.size ≤ maxLen) :
    Calls Tryd.prog 8 #[.string s] w fun e w' => e = .returned (.tuple #[.int .i64 (durN s.data.toList), .int .i64 (durE s.data.toList)]) ∧ Below w.heap.size w w' := by
  by_cases h0 : s.data.toList = []
  · obtain rfl : s = ⟨#[]⟩ := bytes_ext (by rw [h0])
    clear h0
    go_enter Tryd.func8, Tryd.ntmps8
    go_wp2
    go_ret2
    exact ⟨ret_ii dur_nil.1.symm dur_nil.2.symm, (Below.refl _ _).alloc (Nat.le_refl _) _⟩
  · have hpos : 0 < s.size := by rw [← len_eq]; exact List.length_pos_iff.2 h0
    have t0 : ((s.size : Int) == 0) = false := beq_eq_false_iff_ne.2 (by omega)
    obtain ⟨R, hR⟩ : ∃ R, run 3600001 0 s.data.toList = R := ⟨_, rfl⟩
    have HD : Hid (durN s.data.toList = finN R ∧ durE s.data.toList = finE R) := Lib.hid (by unfold durN durE durP; rw [if_neg h0, hR]; exact ⟨rfl, rfl⟩)
    have HR := Lib.hid hR
    clear h0 hR
    go_enter Tryd.func8, Tryd.ntmps8
    go_wp2
    go_loopw [0, 5, 6] (fun ss so sl w' => ∃ t : ByteArray, ∃ above acc : Nat, ∃ over : Bool, ∃ d : Array Int, ∃ last : Int, ss = .string t ∧ so = .bool over ∧ sl = .int .i64 last ∧ t.size ≤ maxLen ∧ abOK above ∧ lst above = last ∧ run above acc t.data.toList = R ∧ keeps over acc d ∧ D4 d last ∧ Sort.Holds encI w' w.heap.size 0 d ∧ Below w.heap.size w w' ∧ w.heap.size < w'.heap.size) (fun ss _ _ _ => strSize ss)
    case atStart => exact ⟨s, 3600001, 0, false, Array.replicate 4 0, -1, rfl, rfl, rfl, hs, .inl rfl, rfl, HR.out, ⟨(fun h => by cases h), fun _ => rfl⟩, D4.start, holds_new4 w _, (Below.refl _ _).alloc (Nat.le_refl _) _, by simp⟩
    case round =>
      obtain ⟨t, above, acc, over, d, last, rfl, rfl, rfl, hts, hab, hlast, hrun, hkeep, hd4, hhold, hbb, hlt⟩ := hrel
      have hlb := lst_bd hab
      rw [hlast] at hlb
      obtain ⟨lb1, lb2⟩ := hlb
      have HRun := Lib.hid hrun
      have HKeep := Lib.hid hkeep
      have HD4 := Lib.hid hd4
      have HHold := Lib.hid hhold
      have HAb := Lib.hid hab
      have HLast := Lib.hid hlast
      clear hrun hkeep hd4 hhold hab hlast
      by_cases ht : t.data.toList = []
      · obtain rfl : t = ⟨#[]⟩ := bytes_ext (by rw [ht])
        have hRe : R = some acc := by rw [← HRun.out]; exact run_nil _ _
        subst hRe
        clear ht
        go_wp2_with fail
        refine (longs_any _).mono ?_
        rintro e w1 ⟨rfl, hb1⟩
        unfold longsV
        have hA := Lib.hid (holds_below (holds_below HHold.out hb1 hlt) ((Below.refl _ w1).alloc (Nat.le_refl _) (.cells #[.int .i64 3600000, .int .i64 60000, .int .i64 1000, .int .i64 1] 34)) (Nat.lt_of_lt_of_le hlt hb1.size))
        have hL := Lib.hid (holds_longs w1 34)
        have hB : Hid (Below w.heap.size w (w1.alloc (.cells #[.int .i64 3600000, .int .i64 60000, .int .i64 1000, .int .i64 1] 34))) := Lib.hid ((hbb.trans (hb1.mono hbb.size)).alloc (Nat.le_of_lt (Nat.lt_of_lt_of_le hlt hb1.size)) _)
        clear hb1 hbb hlt
        go_wp2
        obtain ⟨bl, hbl⟩ : ∃ bl, w1.heap.size = bl := ⟨_, rfl⟩
        rw [hbl] at hL ⊢
        go_loopw [5, 13, 14] (fun so st su w' => ∃ u : Nat, ∃ ov : Bool, ∃ tt : Int, so = .bool ov ∧ st = .int .i64 tt ∧ su = .int .i64 (u : Int) ∧ u ≤ 4 ∧ 0 ≤ tt ∧ tt ≤ (u : Int) * 1099511627776 ∧ (ov = true → 1099511627776 < acc) ∧ (ov = false → over = false ∧ tt = P4 d u) ∧ Sort.Holds encI w' w.heap.size 0 d ∧ Sort.Holds encI w' bl 0 #[3600000, 60000, 1000, 1] ∧ Below w.heap.size w w') (fun _ _ su _ => 4 - (intOf su).toNat)
        case atStart => exact ⟨0, over, 0, rfl, rfl, rfl, by omega, by omega, by omega, HKeep.out.1, fun h => ⟨h, rfl⟩, hA.out, hL.out, hB.out⟩
        case round =>
          obtain ⟨u, ov, tt, rfl, rfl, rfl, hu, ht0, ht1, hov1, hov2, hA, hL, hB⟩ := hrel
          have HO1 := Lib.hid hov1
          have HO2 := Lib.hid hov2
          have HA := Lib.hid hA
          have HL := Lib.hid hL
          have HBl := Lib.hid hB
          clear hov1 hov2 hA hL hB
          have hu' : u = 0 ∨ u = 1 ∨ u = 2 ∨ u = 3 ∨ u = 4 := by omega
          rcases hu' with rfl | rfl | rfl | rfl | rfl
          · obtain ⟨hc, hf⟩ := holds_at HA.out 0 (by rw [HD4.out.size]; decide)
            obtain ⟨hlc, hlf⟩ := holds_at HL.out 0 (by decide)
            obtain ⟨b0, b1⟩ := HD4.out.bd 0 (by decide)
            obtain ⟨x, hx⟩ : ∃ x, d[0]! = x := ⟨_, rfl⟩
            rw [hx] at hc b0 b1
            have HX := Lib.hid hx
            have hlc' : wr.cell? ⟨bl, 0, none⟩ = some (.int .i64 3600000) := hlc
            have hc' : wr.cell? ⟨w.heap.size, 0, none⟩ = some (.int .i64 x) := hc
            clear hx hc hlc
            by_cases hgt : 305419 < x
            · have hbig : Hid (1099511627776 < acc) := Lib.hid (by
                cases hov : ov
                · obtain ⟨ho, -⟩ := HO2.out hov
                  have hs := HKeep.out.2 ho
                  have q0 := (HD4.out.bd 0 (by decide)).1
                  have q1 := (HD4.out.bd 1 (by decide)).1
                  have q2 := (HD4.out.bd 2 (by decide)).1
                  have q3 := (HD4.out.bd 3 (by decide)).1
                  have := HX.out
                  unfold S4 at hs
                  omega
                · exact HO1.out hov)
              go_wp2
              go_quiet (fail)
              go_wp2
              go_roundw
              case rel => exact ⟨1, true, tt, rfl, rfl, rfl, by omega, ht0, by omega, fun _ => hbig.out, (fun h => by cases h), fun j hj => HA.out j hj, fun j hj => HL.out j hj, belowDr HBl.out _⟩
              case measure => simp [intOf]
            · cases ov
              · go_wp2
                go_quiet (fail)
                go_wp2
                go_quiet (fail)
                go_wp2
                go_roundw
                case rel =>
                  exact ⟨1, false, tt + x * 3600000, rfl, by go_num, rfl, by omega, by omega, by omega, (fun h => by cases h), fun h => ⟨(HO2.out (by trivial)).1, by have h1 := (HO2.out (by trivial)).2; have h2 := HX.out; simp only [P4] at h1 ⊢; omega⟩, fun j hj => HA.out j hj, fun j hj => HL.out j hj, belowDr HBl.out _⟩
                case measure => simp [intOf]
              · go_wp2
                go_quiet (fail)
                go_wp2
                go_roundw
                case rel => exact ⟨1, true, tt, rfl, rfl, rfl, by omega, ht0, by omega, (fun _ => HO1.out (by trivial)), (fun h => by cases h), fun j hj => HA.out j hj, fun j hj => HL.out j hj, belowDr HBl.out _⟩
                case measure => simp [intOf]
          · obtain ⟨hc, hf⟩ := holds_at HA.out 1 (by rw [HD4.out.size]; decide)
            obtain ⟨hlc, hlf⟩ := holds_at HL.out 1 (by decide)
            obtain ⟨b0, b1⟩ := HD4.out.bd 1 (by decide)
            obtain ⟨x, hx⟩ : ∃ x, d[1]! = x := ⟨_, rfl⟩
            rw [hx] at hc b0 b1
            have HX := Lib.hid hx
            have hlc' : wr.cell? ⟨bl, 1, none⟩ = some (.int .i64 60000) := hlc
            have hc' : wr.cell? ⟨w.heap.size, 1, none⟩ = some (.int .i64 x) := hc
            clear hx hc hlc
            by_cases hgt : 18325193 < x
            · have hbig : Hid (1099511627776 < acc) := Lib.hid (by
                cases hov : ov
                · obtain ⟨ho, -⟩ := HO2.out hov
                  have hs := HKeep.out.2 ho
                  have q0 := (HD4.out.bd 0 (by decide)).1
                  have q1 := (HD4.out.bd 1 (by decide)).1
                  have q2 := (HD4.out.bd 2 (by decide)).1
                  have q3 := (HD4.out.bd 3 (by decide)).1
                  have := HX.out
                  unfold S4 at hs
                  omega
                · exact HO1.out hov)
              go_wp2
              go_quiet (fail)
              go_wp2
              go_roundw
              case rel => exact ⟨2, true, tt, rfl, rfl, rfl, by omega, ht0, by omega, fun _ => hbig.out, (fun h => by cases h), fun j hj => HA.out j hj, fun j hj => HL.out j hj, belowDr HBl.out _⟩
              case measure => simp [intOf]
            · cases ov
              · go_wp2
                go_quiet (fail)
                go_wp2
                go_quiet (fail)
                go_wp2
                go_roundw
                case rel =>
                  exact ⟨2, false, tt + x * 60000, rfl, by go_num, rfl, by omega, by omega, by omega, (fun h => by cases h), fun h => ⟨(HO2.out (by trivial)).1, by have h1 := (HO2.out (by trivial)).2; have h2 := HX.out; simp only [P4] at h1 ⊢; omega⟩, fun j hj => HA.out j hj, fun j hj => HL.out j hj, belowDr HBl.out _⟩
                case measure => simp [intOf]
              · go_wp2
                go_quiet (fail)
                go_wp2
                go_roundw
                case rel => exact ⟨2, true, tt, rfl, rfl, rfl, by omega, ht0, by omega, (fun _ => HO1.out (by trivial)), (fun h => by cases h), fun j hj => HA.out j hj, fun j hj => HL.out j hj, belowDr HBl.out _⟩
                case measure => simp [intOf]
          · obtain ⟨hc, hf⟩ := holds_at HA.out 2 (by rw [HD4.out.size]; decide)
            obtain ⟨hlc, hlf⟩ := holds_at HL.out 2 (by decide)
            obtain ⟨b0, b1⟩ := HD4.out.bd 2 (by decide)
            obtain ⟨x, hx⟩ : ∃ x, d[2]! = x := ⟨_, rfl⟩
            rw [hx] at hc b0 b1
            have HX := Lib.hid hx
            have hlc' : wr.cell? ⟨bl, 2, none⟩ = some (.int .i64 1000) := hlc
            have hc' : wr.cell? ⟨w.heap.size, 2, none⟩ = some (.int .i64 x) := hc
            clear hx hc hlc
            by_cases hgt : 1099511627 < x
            · have hbig : Hid (1099511627776 < acc) := Lib.hid (by
                cases hov : ov
                · obtain ⟨ho, -⟩ := HO2.out hov
                  have hs := HKeep.out.2 ho
                  have q0 := (HD4.out.bd 0 (by decide)).1
                  have q1 := (HD4.out.bd 1 (by decide)).1
                  have q2 := (HD4.out.bd 2 (by decide)).1
                  have q3 := (HD4.out.bd 3 (by decide)).1
                  have := HX.out
                  unfold S4 at hs
                  omega
                · exact HO1.out hov)
              go_wp2
              go_quiet (fail)
              go_wp2
              go_roundw
              case rel => exact ⟨3, true, tt, rfl, rfl, rfl, by omega, ht0, by omega, fun _ => hbig.out, (fun h => by cases h), fun j hj => HA.out j hj, fun j hj => HL.out j hj, belowDr HBl.out _⟩
              case measure => simp [intOf]
            · cases ov
              · go_wp2
                go_quiet (fail)
                go_wp2
                go_quiet (fail)
                go_wp2
                go_roundw
                case rel =>
                  exact ⟨3, false, tt + x * 1000, rfl, by go_num, rfl, by omega, by omega, by omega, (fun h => by cases h), fun h => ⟨(HO2.out (by trivial)).1, by have h1 := (HO2.out (by trivial)).2; have h2 := HX.out; simp only [P4] at h1 ⊢; omega⟩, fun j hj => HA.out j hj, fun j hj => HL.out j hj, belowDr HBl.out _⟩
                case measure => simp [intOf]
              · go_wp2
                go_quiet (fail)
                go_wp2
                go_roundw
                case rel => exact ⟨3, true, tt, rfl, rfl, rfl, by omega, ht0, by omega, (fun _ => HO1.out (by trivial)), (fun h => by cases h), fun j hj => HA.out j hj, fun j hj => HL.out j hj, belowDr HBl.out _⟩
                case measure => simp [intOf]
          · obtain ⟨hc, hf⟩ := holds_at HA.out 3 (by rw [HD4.out.size]; decide)
            obtain ⟨hlc, hlf⟩ := holds_at HL.out 3 (by decide)
            obtain ⟨b0, b1⟩ := HD4.out.bd 3 (by decide)
            obtain ⟨x, hx⟩ : ∃ x, d[3]! = x := ⟨_, rfl⟩
            rw [hx] at hc b0 b1
            have HX := Lib.hid hx
            have hlc' : wr.cell? ⟨bl, 3, none⟩ = some (.int .i64 1) := hlc
            have hc' : wr.cell? ⟨w.heap.size, 3, none⟩ = some (.int .i64 x) := hc
            clear hx hc hlc
            by_cases hgt : 1099511627776 < x
            · have hbig : Hid (1099511627776 < acc) := Lib.hid (by
                cases hov : ov
                · obtain ⟨ho, -⟩ := HO2.out hov
                  have hs := HKeep.out.2 ho
                  have q0 := (HD4.out.bd 0 (by decide)).1
                  have q1 := (HD4.out.bd 1 (by decide)).1
                  have q2 := (HD4.out.bd 2 (by decide)).1
                  have q3 := (HD4.out.bd 3 (by decide)).1
                  have := HX.out
                  unfold S4 at hs
                  omega
                · exact HO1.out hov)
              go_wp2
              go_quiet (fail)
              go_wp2
              go_roundw
              case rel => exact ⟨4, true, tt, rfl, rfl, rfl, by omega, ht0, by omega, fun _ => hbig.out, (fun h => by cases h), fun j hj => HA.out j hj, fun j hj => HL.out j hj, belowDr HBl.out _⟩
              case measure => simp [intOf]
            · cases ov
              · go_wp2
                go_quiet (fail)
                go_wp2
                go_quiet (fail)
                go_wp2
                go_roundw
                case rel =>
                  exact ⟨4, false, tt + x * 1, rfl, by go_num, rfl, by omega, by omega, by omega, (fun h => by cases h), fun h => ⟨(HO2.out (by trivial)).1, by have h1 := (HO2.out (by trivial)).2; have h2 := HX.out; simp only [P4, S4] at h1 ⊢; omega⟩, fun j hj => HA.out j hj, fun j hj => HL.out j hj, belowDr HBl.out _⟩
                case measure => simp [intOf]
              · go_wp2
                go_quiet (fail)
                go_wp2
                go_roundw
                case rel => exact ⟨4, true, tt, rfl, rfl, rfl, by omega, ht0, by omega, (fun _ => HO1.out (by trivial)), (fun h => by cases h), fun j hj => HA.out j hj, fun j hj => HL.out j hj, belowDr HBl.out _⟩
                case measure => simp [intOf]
          · cases ov
            · obtain ⟨ho, hp⟩ := HO2.out rfl
              have hs : Hid ((acc : Int) = tt) := Lib.hid (by rw [hp, HKeep.out.2 ho]; rfl)
              clear ho hp
              by_cases hbig : 1099511627776 < tt
              · have hF := Lib.hid (fin_big (t := acc) (by have := hs.out; omega))
                go_wp2
                go_ret2
                exact ⟨ret_ii (by rw [HD.out.1, hF.out.1]) (by rw [HD.out.2, hF.out.2]), HBl.out⟩
              · have hF := Lib.hid (fin_ok (t := acc) (by have := hs.out; omega))
                go_wp2
                go_ret2
                exact ⟨ret_ii (by rw [HD.out.1, hF.out.1, hs.out]) (by rw [HD.out.2, hF.out.2]), HBl.out⟩
            · have hF := Lib.hid (fin_big (t := acc) (HO1.out rfl))
              go_wp2
              go_ret2
              exact ⟨ret_ii (by rw [HD.out.1, hF.out.1]) (by rw [HD.out.2, hF.out.2]), HBl.out⟩
      · have htp : 0 < t.size := by rw [← len_eq]; exact List.length_pos_iff.2 ht
        have htp' : (0 : Int) < (t.size : Int) := by omega
        obtain ⟨q, hq⟩ : ∃ q : ByteArray, uR (tlD t.data.toList) = q.data.toList := ⟨⟨(uR (tlD t.data.toList)).toArray⟩, by simp⟩
        obtain ⟨hd, hh⟩ : ∃ hd : ByteArray, rH t.data.toList = hd.data.toList := ⟨⟨(rH t.data.toList).toArray⟩, by simp⟩
        obtain ⟨u, hu⟩ : ∃ u : Nat, uI (tlD t.data.toList) = u := ⟨_, rfl⟩
        obtain ⟨o, ho⟩ : ∃ o, rO t.data.toList = o := ⟨_, rfl⟩
        have HQ := Lib.hid hq
        have HH := Lib.hid hh
        have HU := Lib.hid hu
        have HO := Lib.hid ho
        have HT := Lib.hid ht
        have hhs : hd.size ≤ maxLen := by
          have := rH_len t.data.toList
          rw [hh, len_eq, len_eq] at this; omega
        clear hq hh hu ho ht
        cases o
        · have hN : R = none := by rw [← HRun.out]; exact rr_no HT.out HO.out
          subst hN
          go_wp2_with (go_at_call 19; refine (Rgroup_q t hd q u false _ hts HH.out HU.out HQ.out HO.out).mono ?_; rintro e w1 ⟨rfl, hb1⟩)
          go_ret2
          exact ⟨ret_ii (by rw [HD.out.1]; rfl) (by rw [HD.out.2]; rfl), hbb.trans (hb1.mono hbb.size)⟩
        · by_cases h1 : (u : Int) ≤ last
          · have hN : R = none := by rw [← HRun.out]; exact rr_late HT.out HAb.out HO.out (by rw [HU.out, HLast.out]; exact h1)
            subst hN
            go_wp2_with (go_at_call 19; refine (Rgroup_q t hd q u true _ hts HH.out HU.out HQ.out HO.out).mono ?_; rintro e w1 ⟨rfl, hb1⟩)
            go_ret2
            exact ⟨ret_ii (by rw [HD.out.1]; rfl) (by rw [HD.out.2]; rfl), hbb.trans (hb1.mono hbb.size)⟩
          · by_cases hz : hd.data.toList = [48] ∧ (0 ≤ last ∨ q.data.toList ≠ [])
            · have hN : R = none := by
                rw [← HRun.out]
                exact rr_zero HT.out HAb.out (by rw [HH.out]; exact hz.1) HO.out (by rw [HLast.out, HQ.out]; exact hz.2)
              obtain rfl : hd = ⟨#[48]⟩ := bytes_ext (by rw [hz.1])
              subst hN
              by_cases h2 : 0 ≤ last
              · clear hz
                go_wp2_with (go_at_call 19; refine (Rgroup_q t ⟨#[48]⟩ q u true _ hts HH.out HU.out HQ.out HO.out).mono ?_; rintro e w1 ⟨rfl, hb1⟩)
                go_ret2
                exact ⟨ret_ii (by rw [HD.out.1]; rfl) (by rw [HD.out.2]; rfl), hbb.trans (hb1.mono hbb.size)⟩
              · have hq0 : q.data.toList ≠ [] := hz.2.resolve_left h2
                have hqp : 0 < q.size := by rw [← len_eq]; exact List.length_pos_iff.2 hq0
                have hqp' : (0 : Int) < (q.size : Int) := by omega
                clear hz hq0
                go_wp2_with (go_at_call 19; refine (Rgroup_q t ⟨#[48]⟩ q u true _ hts HH.out HU.out HQ.out HO.out).mono ?_; rintro e w1 ⟨rfl, hb1⟩)
                go_ret2
                exact ⟨ret_ii (by rw [HD.out.1]; rfl) (by rw [HD.out.2]; rfl), hbb.trans (hb1.mono hbb.size)⟩
            · have hgo := Lib.hid (rr_go (acc := acc) HT.out HAb.out HO.out (by rw [HU.out, HLast.out]; exact h1) (by rw [HH.out, HLast.out, HQ.out]; exact hz))
              have hu4 : u < 4 := by rw [← HU.out]; exact (uS_ab hgo.out.2.1).2.2
              have hu4' : (u : Int) < 4 := by omega
              have hll : last < (u : Int) := by omega
              have hqs : q.size < t.size := by
                have := hgo.out.2.2.1
                rw [HQ.out, len_eq, len_eq] at this; exact this
              have HDg := Lib.hid (show digs hd.data.toList = true by rw [← HH.out]; exact hgo.out.2.2.2)
              by_cases h48 : hd.data.toList = [48]
              · have hl0 : ¬ 0 ≤ last := fun hc => hz ⟨h48, .inl hc⟩
                have hq0 : q.data.toList = [] := Classical.byContradiction fun hc => hz ⟨h48, .inr hc⟩
                obtain rfl : hd = ⟨#[48]⟩ := bytes_ext (by rw [h48])
                obtain rfl : q = ⟨#[]⟩ := bytes_ext (by rw [hq0])
                have HN : Hid (capN (⟨#[48]⟩ : ByteArray).data.toList = 0) := Lib.hid (by decide)
                have HV : Hid (val (rH t.data.toList) = 0) := Lib.hid (by rw [HH.out]; rfl)
                clear hz h48 hq0
                go_wp2_with fail
                refine (Rgroup_q t ⟨#[48]⟩ ⟨#[]⟩ u true _ hts HH.out HU.out HQ.out HO.out).mono ?_
                rintro e w1 ⟨rfl, hb1⟩
                have hh1 := Lib.hid (holds_below HHold.out hb1 hlt)
                have bb1 := hbb.trans (hb1.mono hbb.size)
                have hlt1 : w.heap.size < w1.heap.size := Nat.lt_of_lt_of_le hlt hb1.size
                obtain ⟨hcu, hfu⟩ := holds_at hh1.out u (by rw [HD4.out.size]; exact hu4)
                have hfu' := hfu
                have hcu' : w1.cell? ⟨w.heap.size, u, none⟩ = some (.int .i64 d[u]!) := hcu
                clear hcu
                clear hbb hb1
                go_wp2_with fail
                refine (RValue_q (⟨#[48]⟩ : ByteArray) 0 _ hhs HDg.out HN.out).mono ?_
                rintro e w2 ⟨rfl, rfl⟩
                go_wp2
                go_roundw
                case rel =>
                  have hset := holds_set hh1.out (0) (show u < d.size by rw [HD4.out.size]; exact hu4)
                  refine ⟨⟨#[]⟩, uS (tlD t.data.toList), acc + val (rH t.data.toList) * uS (tlD t.data.toList), over, d.setIfInBounds u (0), (u : Int), rfl, rfl, rfl, by omega, (uS_ab hgo.out.2.1).1, by rw [(uS_ab hgo.out.2.1).2.1, HU.out], ?_, ?_, ?_, hset, bb1.setCell (Nat.le_refl _) _, by simpa using hlt1⟩
                  · rw [← HRun.out, hgo.out.1, HQ.out]
                  · have := keeps_ok (v := val (rH t.data.toList)) HKeep.out HD4.out hgo.out.2.1 (by rw [HU.out]; exact hll)
                    rw [HU.out] at this
                    rw [HV.out] at this ⊢
                    exact this
                  · exact D4.set HD4.out u _ hu4 hll (by omega) (by omega)
                case measure =>
                  exact hqs
              · have bz : (hd.toList == [48]) = false := by rw [ByteArray.toList_eq]; exact beq_eq_false_iff_ne.2 h48
                have bz2 : ¬ hd.toList = [48] := by rw [ByteArray.toList_eq]; exact h48
                have bz3 : ¬ hd = ⟨#[48]⟩ := fun hc => h48 (by rw [hc])
                by_cases hbig : 1099511627776 < val hd.data.toList
                · obtain ⟨n, hn⟩ : ∃ n, capN hd.data.toList = n := ⟨_, rfl⟩
                  have HN := Lib.hid hn
                  have hn1 : 1099511627776 < n := by rw [← hn]; exact cap_val.1.2 hbig
                  have hn2 : n ≤ 1152921504606846976 := by rw [← hn]; exact (capN_bd _).2
                  have HBig := Lib.hid hbig
                  clear hz h48 hn hbig
                  go_wp2_with fail
                  refine (Rgroup_q t hd q u true _ hts HH.out HU.out HQ.out HO.out).mono ?_
                  rintro e w1 ⟨rfl, hb1⟩
                  have hh1 := Lib.hid (holds_below HHold.out hb1 hlt)
                  have bb1 := hbb.trans (hb1.mono hbb.size)
                  have hlt1 : w.heap.size < w1.heap.size := Nat.lt_of_lt_of_le hlt hb1.size
                  obtain ⟨hcu, hfu⟩ := holds_at hh1.out u (by rw [HD4.out.size]; exact hu4)
                  have hfu' := hfu
                  have hcu' : w1.cell? ⟨w.heap.size, u, none⟩ = some (.int .i64 d[u]!) := hcu
                  clear hcu
                  clear hbb hb1
                  go_wp2_with fail
                  refine (RValue_q hd n _ hhs HDg.out HN.out).mono ?_
                  rintro e w2 ⟨rfl, rfl⟩
                  go_wp2
                  go_roundw
                  case rel =>
                    have hset := holds_set hh1.out (0) (show u < d.size by rw [HD4.out.size]; exact hu4)
                    refine ⟨q, uS (tlD t.data.toList), acc + val (rH t.data.toList) * uS (tlD t.data.toList), true, d.setIfInBounds u (0), (u : Int), rfl, rfl, rfl, by omega, (uS_ab hgo.out.2.1).1, by rw [(uS_ab hgo.out.2.1).2.1, HU.out], ?_, ?_, ?_, hset, bb1.setCell (Nat.le_refl _) _, by simpa using hlt1⟩
                    · rw [← HRun.out, hgo.out.1, HQ.out]
                    · exact keeps_big _ HKeep.out (by rw [HH.out]; exact HBig.out) hgo.out.2.1
                    · exact D4.set HD4.out u _ hu4 hll (by omega) (by omega)
                  case measure =>
                    exact hqs
                · obtain ⟨n, hn⟩ : ∃ n, val hd.data.toList = n := ⟨_, rfl⟩
                  have HN : Hid (capN hd.data.toList = (n : Int)) := Lib.hid (by rw [cap_val.2 hbig, hn])
                  have hn1 : (n : Int) ≤ 1099511627776 := by omega
                  have HV : Hid (val (rH t.data.toList) = n) := Lib.hid (by rw [HH.out, hn])
                  clear hz h48 hn hbig
                  go_wp2_with fail
                  refine (Rgroup_q t hd q u true _ hts HH.out HU.out HQ.out HO.out).mono ?_
                  rintro e w1 ⟨rfl, hb1⟩
                  have hh1 := Lib.hid (holds_below HHold.out hb1 hlt)
                  have bb1 := hbb.trans (hb1.mono hbb.size)
                  have hlt1 : w.heap.size < w1.heap.size := Nat.lt_of_lt_of_le hlt hb1.size
                  obtain ⟨hcu, hfu⟩ := holds_at hh1.out u (by rw [HD4.out.size]; exact hu4)
                  have hfu' := hfu
                  have hcu' : w1.cell? ⟨w.heap.size, u, none⟩ = some (.int .i64 d[u]!) := hcu
                  clear hcu
                  clear hbb hb1
                  go_wp2_with fail
                  refine (RValue_q hd (n : Int) _ hhs HDg.out HN.out).mono ?_
                  rintro e w2 ⟨rfl, rfl⟩
                  go_wp2
                  go_roundw
                  case rel =>
                    have hset := holds_set hh1.out ((n : Int)) (show u < d.size by rw [HD4.out.size]; exact hu4)
                    refine ⟨q, uS (tlD t.data.toList), acc + val (rH t.data.toList) * uS (tlD t.data.toList), over, d.setIfInBounds u ((n : Int)), (u : Int), rfl, rfl, rfl, by omega, (uS_ab hgo.out.2.1).1, by rw [(uS_ab hgo.out.2.1).2.1, HU.out], ?_, ?_, ?_, hset, bb1.setCell (Nat.le_refl _) _, by simpa using hlt1⟩
                    · rw [← HRun.out, hgo.out.1, HQ.out]
                    · have := keeps_ok (v := val (rH t.data.toList)) HKeep.out HD4.out hgo.out.2.1 (by rw [HU.out]; exact hll)
                      rw [HU.out] at this
                      rw [HV.out] at this ⊢
                      exact this
                    · exact D4.set HD4.out u _ hu4 hll (by omega) (by omega)
                  case measure =>
                    exact hqs
end Go.Proofs.YtegljoikdfjepaaDoor
