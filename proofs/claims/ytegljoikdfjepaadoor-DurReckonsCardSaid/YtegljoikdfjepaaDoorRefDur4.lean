/- The contract of the document's own Text. -/
import Derived.Test.YtegljoikdfjepaaDoorRefDur2
import Derived.Test.YtegljoikdfjepaaDoorDurText
import Derived.Test.YtegljoikdfjepaaDoorRefDig1
import Derived.Deep.RegionHeld
import Derived.Laws.Runes
namespace Go.Proofs.YtegljoikdfjepaaDoor
open Go.RowKit
open Dg
set_option linter.unusedVariables false
def encS (b : ByteArray) : Value := .string b
/-- What is still to be written of a remainder from the unit u on. -/
def rT : Nat → Nat → List UInt8
  | 0, m => pt (m / 3600000) [104] ++ (pt (m % 3600000 / 60000) [109] ++ (pt (m % 3600000 % 60000 / 1000) [115] ++ pt (m % 3600000 % 60000 % 1000) [109, 115]))
  | 1, m => pt (m / 60000) [109] ++ (pt (m % 60000 / 1000) [115] ++ pt (m % 60000 % 1000) [109, 115])
  | 2, m => pt (m / 1000) [115] ++ pt (m % 1000) [109, 115]
  | 3, m => pt m [109, 115]
  | _, _ => []
theorem rT_start {m : Nat} (h : m ≠ 0) : rT 0 m = durT m := by
  have e1 : m % 3600000 % 60000 = m % 60000 := by omega
  have e2 : m % 60000 % 1000 = m % 1000 := by omega
  have e0 : rT 0 m = pt (m / 3600000) [104] ++ (pt (m % 3600000 / 60000) [109] ++ (pt (m % 3600000 % 60000 / 1000) [115] ++ pt (m % 3600000 % 60000 % 1000) [109, 115])) := rfl
  unfold durT
  rw [if_neg h, e0, e1, e2, List.append_assoc, List.append_assoc]
theorem rT_0 (m : Nat) : rT 0 m = pt (m / 3600000) [104] ++ rT 1 (m % 3600000) := rfl
theorem rT_1 (m : Nat) : rT 1 m = pt (m / 60000) [109] ++ rT 2 (m % 60000) := rfl
theorem rT_2 (m : Nat) : rT 2 m = pt (m / 1000) [115] ++ rT 3 (m % 1000) := rfl
theorem rT_3 (m : Nat) : rT 3 m = pt (m / 1) [109, 115] ++ rT 4 (m % 1) := by rw [Nat.div_one]; show pt m [109, 115] = pt m [109, 115] ++ []; rw [List.append_nil]
theorem holds_longs' (w : World) (ty : TypeId) : Sort.Holds encI (w.alloc (.cells #[.int .i64 3600000, .int .i64 60000, .int .i64 1000, .int .i64 1] ty)) w.heap.size 0 #[3600000, 60000, 1000, 1] := by
  intro j hj
  have hj' : j < 4 := hj
  rw [Nat.zero_add]
  constructor
  · rw [World.cell?_alloc_at _ _ _ _ rfl]
    match j, hj' with
    | 0, _ => rfl
    | 1, _ => rfl
    | 2, _ => rfl
    | 3, _ => rfl
  · exact World.frozen?_alloc_at _ _ _ _ rfl
theorem holds_names (w : World) (ty : TypeId) : Sort.Holds encS (w.alloc (.cells #[.string ⟨#[104]⟩, .string ⟨#[109]⟩, .string ⟨#[115]⟩, .string ⟨#[109, 115]⟩] ty)) w.heap.size 0 #[⟨#[104]⟩, ⟨#[109]⟩, ⟨#[115]⟩, ⟨#[109, 115]⟩] := by
  intro j hj
  have hj' : j < 4 := hj
  rw [Nat.zero_add]
  constructor
  · rw [World.cell?_alloc_at _ _ _ _ rfl]
    match j, hj' with
    | 0, _ => rfl
    | 1, _ => rfl
    | 2, _ => rfl
    | 3, _ => rfl
  · exact World.frozen?_alloc_at _ _ _ _ rfl
theorem RText_s (x : Int) (d : ByteArray) (m : Nat) (w w0 : World) (bl bn u : Nat) (l : Int) (nm : ByteArray) (hx : x = (m : Int)) (hm : m ≤ 1099511627776) (hd : dgw 1 m = d.data.toList) (hbl : bl < w0.heap.size) (hbn : bn < w0.heap.size)
    (hS : w.cell? ⟨bl, u, none⟩ = some (.int .i64 l) ∧ w.cell? ⟨bn, u, none⟩ = some (.string nm) ∧ Below w0.heap.size w0 w) :
    Calls Tryd.prog 24 #[.int .i64 x] w fun e w' => e = .returned (.string d) ∧ w'.cell? ⟨bl, u, none⟩ = some (.int .i64 l) ∧ w'.cell? ⟨bn, u, none⟩ = some (.string nm) ∧ Below w0.heap.size w0 w' := by
  subst hx
  refine (RText_any (m : Int) w (by omega) (by omega)).mono fun e w' ⟨h1, h2⟩ => ⟨by rw [h1, textL_nat, mk_of hd], ?_, ?_, hS.2.2.trans (h2.mono hS.2.2.size)⟩
  · rw [h2.cell (p := ⟨bl, u, none⟩) (Nat.lt_of_lt_of_le hbl hS.2.2.size)]; exact hS.1
  · rw [h2.cell (p := ⟨bn, u, none⟩) (Nat.lt_of_lt_of_le hbn hS.2.2.size)]; exact hS.2.1

set_option maxHeartbeats 4000000 in
theorem RDText_any (n : Int) (w : World) (h1 : -9223372036854775808 ≤ n) (h2 : n ≤ 9223372036854775807) :
    Calls Tryd.prog 10 #[.int .i64 n] w fun e w' => e = .returned (.string ⟨(durTL n).toArray⟩) ∧ Below w.heap.size w w' := by
  by_cases hneg : n < 0
  · have H := Lib.hid (dur_none (.inl hneg))
    go_enter Tryd.func10, Tryd.ntmps10
    go_wp2
    go_ret
    exact ⟨ret_str (by rw [H.out]), Below.refl _ _⟩
  · by_cases hbig : 1099511627776 < n
    · have H := Lib.hid (dur_none (.inr hbig))
      go_enter Tryd.func10, Tryd.ntmps10
      go_wp2
      go_ret
      exact ⟨ret_str (by rw [H.out]), Below.refl _ _⟩
    · obtain ⟨m0, rfl⟩ := Int.eq_ofNat_of_zero_le (show 0 ≤ n by omega)
      have hm0 : m0 ≤ 1099511627776 := by omega
      have hT := durTL_in hm0
      by_cases h0 : m0 = 0
      · subst h0
        have H := Lib.hid hT
        clear hT
        go_enter Tryd.func10, Tryd.ntmps10
        go_wp2
        go_ret
        exact ⟨ret_str (by have := H.out; rw [show ((0 : Nat) : Int) = 0 from rfl] at this; rw [this]; rfl), Below.refl _ _⟩
      · have t1 : ((m0 : Int) == 0) = false := beq_eq_false_iff_ne.2 (by omega)
        have HT : Hid (durTL (m0 : Int) = rT 0 m0) := Lib.hid (by rw [hT, rT_start h0])
        clear hT h0
        go_enter Tryd.func10, Tryd.ntmps10
        go_wp2_with fail
        refine (longs_any _).mono ?_
        rintro e w1 ⟨rfl, hb1⟩
        unfold longsV
        go_wp2_with fail
        refine (names_any _).mono ?_
        rintro e w2 ⟨rfl, hb2⟩
        unfold namesV
        have hAl := hb1.alloc hb1.size (.cells #[.int .i64 3600000, .int .i64 60000, .int .i64 1000, .int .i64 1] 34)
        have hw1 : w1.heap.size < w2.heap.size := Nat.lt_of_lt_of_le (show w1.heap.size < (w1.alloc (.cells #[.int .i64 3600000, .int .i64 60000, .int .i64 1000, .int .i64 1] 34)).heap.size by simp) hb2.size
        have hL := Lib.hid (holds_below (holds_below (holds_longs' w1 34) hb2 (by simp)) ((Below.refl _ w2).alloc (Nat.le_refl _) (.cells #[.string ⟨#[104]⟩, .string ⟨#[109]⟩, .string ⟨#[115]⟩, .string ⟨#[109, 115]⟩] 40)) hw1)
        have hN := Lib.hid (holds_names w2 40)
        have hB : Hid (Below w.heap.size w (w2.alloc (.cells #[.string ⟨#[104]⟩, .string ⟨#[109]⟩, .string ⟨#[115]⟩, .string ⟨#[109, 115]⟩] 40))) := Lib.hid ((hAl.trans (hb2.mono hAl.size)).alloc (Nat.le_trans hAl.size hb2.size) _)
        have hlt2 : Hid (w2.heap.size < (w2.alloc (.cells #[.string ⟨#[104]⟩, .string ⟨#[109]⟩, .string ⟨#[115]⟩, .string ⟨#[109, 115]⟩] 40)).heap.size) := Lib.hid (by simp)
        have hlt1 := Lib.hid hw1
        clear hb1 hb2 hAl hw1
        go_wp2
        obtain ⟨bl, hbl⟩ : ∃ bl, w1.heap.size = bl := ⟨_, rfl⟩
        obtain ⟨bn, hbn⟩ : ∃ bn, w2.heap.size = bn := ⟨_, rfl⟩
        rw [hbl] at hL hlt1 ⊢
        rw [hbn] at hN hlt1 hlt2 ⊢
        go_loopw [0, 3, 6] (fun sn ss su w' => ∃ u m : Nat, ∃ sb : ByteArray, sn = .int .i64 (m : Int) ∧ ss = .string sb ∧ su = .int .i64 (u : Int) ∧ u ≤ 4 ∧ m ≤ 1099511627776 ∧ sb.size ≤ 20 * u ∧ sb.data.toList ++ rT u m = rT 0 m0 ∧ Sort.Holds encI w' bl 0 #[3600000, 60000, 1000, 1] ∧ Sort.Holds encS w' bn 0 #[⟨#[104]⟩, ⟨#[109]⟩, ⟨#[115]⟩, ⟨#[109, 115]⟩] ∧ Below w.heap.size w w' ∧ bl < w'.heap.size ∧ bn < w'.heap.size) (fun _ _ su _ => 4 - (intOf su).toNat)
        case atStart => exact ⟨0, m0, ⟨#[]⟩, rfl, rfl, rfl, by omega, hm0, Nat.le_refl _, rfl, hL.out, hN.out, hB.out, Nat.lt_trans hlt1.out hlt2.out, hlt2.out⟩
        case round =>
          obtain ⟨u, m, sb, rfl, rfl, rfl, hu, hm, hsb, hrest, hL, hN, hB, hlt1, hlt2⟩ := hrel
          have HRest := Lib.hid hrest
          have HL := Lib.hid hL
          have HN := Lib.hid hN
          have HBl := Lib.hid hB
          have HL1 := Lib.hid hlt1
          have HL2 := Lib.hid hlt2
          clear hrest hL hN hB hlt1 hlt2
          have hu' : u = 0 ∨ u = 1 ∨ u = 2 ∨ u = 3 ∨ u = 4 := by omega
          rcases hu' with rfl | rfl | rfl | rfl | rfl
          · obtain ⟨hlc, -⟩ := holds_at HL.out 0 (by decide)
            obtain ⟨hnc, -⟩ := holds_at HN.out 0 (by decide)
            have hlc' : wr.cell? ⟨bl, 0, none⟩ = some (.int .i64 3600000) := hlc
            have hnc' : wr.cell? ⟨bn, 0, none⟩ = some (.string ⟨#[104]⟩) := hnc
            clear hlc hnc
            have HR := Lib.hid (rT_0 m)
            by_cases hk : m / 3600000 = 0
            · have g1 : ¬ (0 : Int) < (m : Int) / 3600000 := by omega
              have HK := Lib.hid hk
              clear hk
              go_wp2
              go_roundw
              case rel => exact ⟨1, m % 3600000, sb, by go_num, rfl, rfl, by omega, by omega, by omega, by rw [← HRest.out, HR.out, HK.out, pt_zero]; rfl, HL.out, HN.out, HBl.out, HL1.out, HL2.out⟩
              case measure => simp [intOf]
            · have g1 : (0 : Int) < (m : Int) / 3600000 := by omega
              obtain ⟨d, hd⟩ : ∃ d : ByteArray, dgw 1 (m / 3600000) = d.data.toList := ⟨⟨(dgw 1 (m / 3600000)).toArray⟩, by simp⟩
              have hds : d.size ≤ 13 := by rw [size_of hd]; exact dgw_13 (by omega)
              have hwr : IntKind.i64.wrap ((m : Int) / 3600000) = ((m : Int) / 3600000) := wrap_small _ (by omega) (by omega)
              have hsum1 : sb.size + d.size ≤ 9223372036854775807 := by omega
              have hsum2 : sb.size + d.size + 1 ≤ 9223372036854775807 := by omega
              have HDd := Lib.hid hd
              have HK := Lib.hid hk
              clear hd hk
              go_wp2
              go_region_held (fun w' => w'.cell? ⟨bl, 0, none⟩ = some (.int .i64 3600000) ∧ w'.cell? ⟨bn, 0, none⟩ = some (.string ⟨#[104]⟩) ∧ Below wr.heap.size wr w') (first | exact ⟨hS1, hS2, hS3⟩ | exact ⟨hlc', hnc', (Below.refl _ _).drew⟩) (first | (go_at_call 24; refine (RText_s _ d (m / 3600000) _ wr bl bn 0 3600000 ⟨#[104]⟩ (by omega) (by omega) HDd.out HL1.out HL2.out (by assumption)).mono ?_; rintro e w3 ⟨rfl, hS1, hS2, hS3⟩))
              go_wp2
              go_roundw
              case rel =>
                refine ⟨1, m % 3600000, _, by go_num, rfl, rfl, by omega, by omega, ?_, ?_, holds_below HL.out hS3 HL1.out, holds_below HN.out hS3 HL2.out, HBl.out.trans (hS3.mono HBl.out.size), Nat.lt_of_lt_of_le HL1.out hS3.size, Nat.lt_of_lt_of_le HL2.out hS3.size⟩
                · rw [← len_eq, data_app, data_app, List.length_append, List.length_append, len_eq, len_eq, len_eq]
                  show _ + _ + 1 ≤ _
                  omega
                · rw [← HRest.out, HR.out, pt_pos HK.out, data_app, data_app, HDd.out, List.append_assoc, List.append_assoc, List.append_assoc]
              case measure => simp [intOf]
          · obtain ⟨hlc, -⟩ := holds_at HL.out 1 (by decide)
            obtain ⟨hnc, -⟩ := holds_at HN.out 1 (by decide)
            have hlc' : wr.cell? ⟨bl, 1, none⟩ = some (.int .i64 60000) := hlc
            have hnc' : wr.cell? ⟨bn, 1, none⟩ = some (.string ⟨#[109]⟩) := hnc
            clear hlc hnc
            have HR := Lib.hid (rT_1 m)
            by_cases hk : m / 60000 = 0
            · have g1 : ¬ (0 : Int) < (m : Int) / 60000 := by omega
              have HK := Lib.hid hk
              clear hk
              go_wp2
              go_roundw
              case rel => exact ⟨2, m % 60000, sb, by go_num, rfl, rfl, by omega, by omega, by omega, by rw [← HRest.out, HR.out, HK.out, pt_zero]; rfl, HL.out, HN.out, HBl.out, HL1.out, HL2.out⟩
              case measure => simp [intOf]
            · have g1 : (0 : Int) < (m : Int) / 60000 := by omega
              obtain ⟨d, hd⟩ : ∃ d : ByteArray, dgw 1 (m / 60000) = d.data.toList := ⟨⟨(dgw 1 (m / 60000)).toArray⟩, by simp⟩
              have hds : d.size ≤ 13 := by rw [size_of hd]; exact dgw_13 (by omega)
              have hwr : IntKind.i64.wrap ((m : Int) / 60000) = ((m : Int) / 60000) := wrap_small _ (by omega) (by omega)
              have hsum1 : sb.size + d.size ≤ 9223372036854775807 := by omega
              have hsum2 : sb.size + d.size + 1 ≤ 9223372036854775807 := by omega
              have HDd := Lib.hid hd
              have HK := Lib.hid hk
              clear hd hk
              go_wp2
              go_region_held (fun w' => w'.cell? ⟨bl, 1, none⟩ = some (.int .i64 60000) ∧ w'.cell? ⟨bn, 1, none⟩ = some (.string ⟨#[109]⟩) ∧ Below wr.heap.size wr w') (first | exact ⟨hS1, hS2, hS3⟩ | exact ⟨hlc', hnc', (Below.refl _ _).drew⟩) (first | (go_at_call 24; refine (RText_s _ d (m / 60000) _ wr bl bn 1 60000 ⟨#[109]⟩ (by omega) (by omega) HDd.out HL1.out HL2.out (by assumption)).mono ?_; rintro e w3 ⟨rfl, hS1, hS2, hS3⟩))
              go_wp2
              go_roundw
              case rel =>
                refine ⟨2, m % 60000, _, by go_num, rfl, rfl, by omega, by omega, ?_, ?_, holds_below HL.out hS3 HL1.out, holds_below HN.out hS3 HL2.out, HBl.out.trans (hS3.mono HBl.out.size), Nat.lt_of_lt_of_le HL1.out hS3.size, Nat.lt_of_lt_of_le HL2.out hS3.size⟩
                · rw [← len_eq, data_app, data_app, List.length_append, List.length_append, len_eq, len_eq, len_eq]
                  show _ + _ + 1 ≤ _
                  omega
                · rw [← HRest.out, HR.out, pt_pos HK.out, data_app, data_app, HDd.out, List.append_assoc, List.append_assoc, List.append_assoc]
              case measure => simp [intOf]
          · obtain ⟨hlc, -⟩ := holds_at HL.out 2 (by decide)
            obtain ⟨hnc, -⟩ := holds_at HN.out 2 (by decide)
            have hlc' : wr.cell? ⟨bl, 2, none⟩ = some (.int .i64 1000) := hlc
            have hnc' : wr.cell? ⟨bn, 2, none⟩ = some (.string ⟨#[115]⟩) := hnc
            clear hlc hnc
            have HR := Lib.hid (rT_2 m)
            by_cases hk : m / 1000 = 0
            · have g1 : ¬ (0 : Int) < (m : Int) / 1000 := by omega
              have HK := Lib.hid hk
              clear hk
              go_wp2
              go_roundw
              case rel => exact ⟨3, m % 1000, sb, by go_num, rfl, rfl, by omega, by omega, by omega, by rw [← HRest.out, HR.out, HK.out, pt_zero]; rfl, HL.out, HN.out, HBl.out, HL1.out, HL2.out⟩
              case measure => simp [intOf]
            · have g1 : (0 : Int) < (m : Int) / 1000 := by omega
              obtain ⟨d, hd⟩ : ∃ d : ByteArray, dgw 1 (m / 1000) = d.data.toList := ⟨⟨(dgw 1 (m / 1000)).toArray⟩, by simp⟩
              have hds : d.size ≤ 13 := by rw [size_of hd]; exact dgw_13 (by omega)
              have hwr : IntKind.i64.wrap ((m : Int) / 1000) = ((m : Int) / 1000) := wrap_small _ (by omega) (by omega)
              have hsum1 : sb.size + d.size ≤ 9223372036854775807 := by omega
              have hsum2 : sb.size + d.size + 1 ≤ 9223372036854775807 := by omega
              have HDd := Lib.hid hd
              have HK := Lib.hid hk
              clear hd hk
              go_wp2
              go_region_held (fun w' => w'.cell? ⟨bl, 2, none⟩ = some (.int .i64 1000) ∧ w'.cell? ⟨bn, 2, none⟩ = some (.string ⟨#[115]⟩) ∧ Below wr.heap.size wr w') (first | exact ⟨hS1, hS2, hS3⟩ | exact ⟨hlc', hnc', (Below.refl _ _).drew⟩) (first | (go_at_call 24; refine (RText_s _ d (m / 1000) _ wr bl bn 2 1000 ⟨#[115]⟩ (by omega) (by omega) HDd.out HL1.out HL2.out (by assumption)).mono ?_; rintro e w3 ⟨rfl, hS1, hS2, hS3⟩))
              go_wp2
              go_roundw
              case rel =>
                refine ⟨3, m % 1000, _, by go_num, rfl, rfl, by omega, by omega, ?_, ?_, holds_below HL.out hS3 HL1.out, holds_below HN.out hS3 HL2.out, HBl.out.trans (hS3.mono HBl.out.size), Nat.lt_of_lt_of_le HL1.out hS3.size, Nat.lt_of_lt_of_le HL2.out hS3.size⟩
                · rw [← len_eq, data_app, data_app, List.length_append, List.length_append, len_eq, len_eq, len_eq]
                  show _ + _ + 1 ≤ _
                  omega
                · rw [← HRest.out, HR.out, pt_pos HK.out, data_app, data_app, HDd.out, List.append_assoc, List.append_assoc, List.append_assoc]
              case measure => simp [intOf]
          · obtain ⟨hlc, -⟩ := holds_at HL.out 3 (by decide)
            obtain ⟨hnc, -⟩ := holds_at HN.out 3 (by decide)
            have hlc' : wr.cell? ⟨bl, 3, none⟩ = some (.int .i64 1) := hlc
            have hnc' : wr.cell? ⟨bn, 3, none⟩ = some (.string ⟨#[109, 115]⟩) := hnc
            clear hlc hnc
            have HR := Lib.hid (rT_3 m)
            by_cases hk : m / 1 = 0
            · have g1 : ¬ (0 : Int) < (m : Int) / 1 := by omega
              have HK := Lib.hid hk
              clear hk
              go_wp2
              go_roundw
              case rel => exact ⟨4, m % 1, sb, by go_num, rfl, rfl, by omega, by omega, by omega, by rw [← HRest.out, HR.out, HK.out, pt_zero]; rfl, HL.out, HN.out, HBl.out, HL1.out, HL2.out⟩
              case measure => simp [intOf]
            · have g1 : (0 : Int) < (m : Int) / 1 := by omega
              obtain ⟨d, hd⟩ : ∃ d : ByteArray, dgw 1 (m / 1) = d.data.toList := ⟨⟨(dgw 1 (m / 1)).toArray⟩, by simp⟩
              have hds : d.size ≤ 13 := by rw [size_of hd]; exact dgw_13 (by omega)
              have hwr : IntKind.i64.wrap (m : Int) = (m : Int) := wrap_small _ (by omega) (by omega)
              have hsum1 : sb.size + d.size ≤ 9223372036854775807 := by omega
              have hsum2 : sb.size + d.size + 2 ≤ 9223372036854775807 := by omega
              have HDd := Lib.hid hd
              have HK := Lib.hid hk
              clear hd hk
              go_wp2
              go_region_held (fun w' => w'.cell? ⟨bl, 3, none⟩ = some (.int .i64 1) ∧ w'.cell? ⟨bn, 3, none⟩ = some (.string ⟨#[109, 115]⟩) ∧ Below wr.heap.size wr w') (first | exact ⟨hS1, hS2, hS3⟩ | exact ⟨hlc', hnc', (Below.refl _ _).drew⟩) (first | (go_at_call 24; refine (RText_s _ d (m / 1) _ wr bl bn 3 1 ⟨#[109, 115]⟩ (by omega) (by omega) HDd.out HL1.out HL2.out (by assumption)).mono ?_; rintro e w3 ⟨rfl, hS1, hS2, hS3⟩))
              go_wp2
              go_roundw
              case rel =>
                refine ⟨4, m % 1, _, by go_num, rfl, rfl, by omega, by omega, ?_, ?_, holds_below HL.out hS3 HL1.out, holds_below HN.out hS3 HL2.out, HBl.out.trans (hS3.mono HBl.out.size), Nat.lt_of_lt_of_le HL1.out hS3.size, Nat.lt_of_lt_of_le HL2.out hS3.size⟩
                · rw [← len_eq, data_app, data_app, List.length_append, List.length_append, len_eq, len_eq, len_eq]
                  show _ + _ + 2 ≤ _
                  omega
                · rw [← HRest.out, HR.out, pt_pos HK.out, data_app, data_app, HDd.out, List.append_assoc, List.append_assoc, List.append_assoc]
              case measure => simp [intOf]
          · go_wp2
            go_ret
            exact ⟨ret_str (mk_of (by rw [HT.out, ← HRest.out]; exact List.append_nil _)).symm, HBl.out⟩
end Go.Proofs.YtegljoikdfjepaaDoor
