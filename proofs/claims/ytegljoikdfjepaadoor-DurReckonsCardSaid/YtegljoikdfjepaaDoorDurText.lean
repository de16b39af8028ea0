/- The contracts of dur.part and dur.Text. -/
import Derived.Test.YtegljoikdfjepaaDoorDurMath
import Derived.Test.YtegljoikdfjepaaDoorDigSmall
import Derived.ChangeAlike
namespace Go.Proofs.YtegljoikdfjepaaDoor
open Go.RowKit
open Dg
set_option linter.unusedVariables false
theorem textL_nat (m : Nat) : textL (m : Int) = dgw 1 m := by
  unfold textL; rw [if_neg (by omega)]; rfl
theorem Text_q (x : Int) (d : ByteArray) (m : Nat) (w : World) (hx : x = (m : Int)) (hm : m ≤ 1099511627776) (hd : dgw 1 m = d.data.toList) :
    Calls Tryd.prog 31 #[.int .i64 x] w fun e w' => e = .returned (.string d) ∧ Below w.heap.size w w' := by
  subst hx
  exact (Text_any (m : Int) w (by omega) (by omega)).mono fun e w' ⟨h1, h2⟩ => ⟨by rw [h1, textL_nat, mk_of hd], h2⟩
theorem dgw_13 {m : Nat} (hm : m ≤ 1099511627776) : (dgw 1 m).length ≤ 13 := dgw_len 1 m 13 (by omega) (by omega)
theorem pt_len {m : Nat} {u : List UInt8} (hm : m ≤ 1099511627776) (hu : u.length ≤ 2) : (pt m u).length ≤ 15 := by
  unfold pt
  split
  · simp
  · rw [List.length_append]; have := dgw_13 hm; omega

set_option maxHeartbeats 1000000 in
theorem part_q (x : Int) (u p : ByteArray) (m : Nat) (w : World) (hx : x = (m : Int)) (hm : m ≤ 1099511627776) (hu : u.size ≤ 2) (hp : pt m u.data.toList = p.data.toList) :
    Calls Tryd.prog 22 #[.int .i64 x, .string u] w fun e w' => e = .returned (.string p) ∧ Below w.heap.size w w' := by
  subst hx
  by_cases h0 : m = 0
  · subst h0
    obtain rfl : p = ⟨#[]⟩ := bytes_ext (by rw [← hp]; rfl)
    clear hp
    go_enter Tryd.func22, Tryd.ntmps22
    go_wp2
    go_ret
    exact ⟨rfl, Below.refl _ _⟩
  · obtain ⟨d, hd⟩ : ∃ d : ByteArray, dgw 1 m = d.data.toList := ⟨⟨(dgw 1 m).toArray⟩, by simp⟩
    have HD := Lib.hid hd
    have HP : Hid (p = d ++ u) := Lib.hid (bytes_ext (by rw [data_app, ← hp, ← hd, pt_pos h0]))
    have t1 : ((m : Int) == 0) = false := beq_eq_false_iff_ne.2 (by omega)
    have hds : d.size ≤ 13 := by rw [size_of hd]; exact dgw_13 hm
    have hsum : d.size + u.size ≤ 9223372036854775807 := by omega
    clear hd hp
    go_enter Tryd.func22, Tryd.ntmps22
    go_wp2_with (go_at_call 31; refine (Text_q _ d m _ rfl hm HD.out).mono ?_; rintro e w1 ⟨rfl, hb⟩)
    go_ret
    exact ⟨ret_str HP.out.symm, hb⟩

theorem durTL_in {m : Nat} (h : m ≤ 1099511627776) : durTL (m : Int) = durT m := by
  unfold durTL; rw [if_neg (by omega)]; rfl
set_option maxHeartbeats 2000000 in
theorem DText_any (n : Int) (w : World) (h1 : -9223372036854775808 ≤ n) (h2 : n ≤ 9223372036854775807) :
    Calls Tryd.prog 9 #[.int .i64 n] w fun e w' => e = .returned (.string ⟨(durTL n).toArray⟩) ∧ Below w.heap.size w w' := by
  by_cases hneg : n < 0
  · have H := Lib.hid (dur_none (.inl hneg))
    go_enter Tryd.func9, Tryd.ntmps9
    go_wp2
    go_ret
    exact ⟨ret_str (by rw [H.out]), Below.refl _ _⟩
  · by_cases hbig : 1099511627776 < n
    · have H := Lib.hid (dur_none (.inr hbig))
      go_enter Tryd.func9, Tryd.ntmps9
      go_wp2
      go_ret
      exact ⟨ret_str (by rw [H.out]), Below.refl _ _⟩
    · obtain ⟨m, rfl⟩ := Int.eq_ofNat_of_zero_le (show 0 ≤ n by omega)
      have hm : m ≤ 1099511627776 := by omega
      have hT := durTL_in hm
      by_cases h0 : m = 0
      · subst h0
        have H := Lib.hid hT
        clear hT
        go_enter Tryd.func9, Tryd.ntmps9
        go_wp2
        go_ret
        exact ⟨ret_str (by have := H.out; rw [show ((0 : Nat) : Int) = 0 from rfl] at this; rw [this]; rfl), Below.refl _ _⟩
      · have t1 : ((m : Int) == 0) = false := beq_eq_false_iff_ne.2 (by omega)
        obtain ⟨p1, hp1⟩ : ∃ p : ByteArray, pt (m / 3600000) [104] = p.data.toList := ⟨⟨(pt (m / 3600000) [104]).toArray⟩, by simp⟩
        obtain ⟨p2, hp2⟩ : ∃ p : ByteArray, pt (m % 3600000 / 60000) [109] = p.data.toList := ⟨⟨(pt (m % 3600000 / 60000) [109]).toArray⟩, by simp⟩
        obtain ⟨p3, hp3⟩ : ∃ p : ByteArray, pt (m % 60000 / 1000) [115] = p.data.toList := ⟨⟨(pt (m % 60000 / 1000) [115]).toArray⟩, by simp⟩
        obtain ⟨p4, hp4⟩ : ∃ p : ByteArray, pt (m % 1000) [109, 115] = p.data.toList := ⟨⟨(pt (m % 1000) [109, 115]).toArray⟩, by simp⟩
        have HT : Hid (durTL (m : Int) = (p1 ++ p2 ++ p3 ++ p4).data.toList) := Lib.hid (by
          rw [hT]; unfold durT; rw [if_neg h0, hp1, hp2, hp3, hp4, data_app, data_app, data_app])
        have s1 : p1.size ≤ 15 := by rw [size_of hp1]; exact pt_len (by omega) (by decide)
        have s2 : p2.size ≤ 15 := by rw [size_of hp2]; exact pt_len (by omega) (by decide)
        have s3 : p3.size ≤ 15 := by rw [size_of hp3]; exact pt_len (by omega) (by decide)
        have s4 : p4.size ≤ 15 := by rw [size_of hp4]; exact pt_len (by omega) (by decide)
        have HP1 := Lib.hid hp1
        have HP2 := Lib.hid hp2
        have HP3 := Lib.hid hp3
        have HP4 := Lib.hid hp4
        clear hT hp1 hp2 hp3 hp4
        go_enter Tryd.func9, Tryd.ntmps9
        go_wp2_with fail
        refine (part_q _ ⟨#[104]⟩ p1 (m / 3600000) _ (by omega) (by omega) (by decide) HP1.out).mono ?_
        rintro e w1 ⟨rfl, hb1⟩
        go_wp2_with fail
        refine (part_q _ ⟨#[109]⟩ p2 (m % 3600000 / 60000) _ (by omega) (by omega) (by decide) HP2.out).mono ?_
        rintro e w2 ⟨rfl, hb2⟩
        have b2 := hb1.trans (hb2.mono hb1.size)
        clear hb1 hb2
        go_wp2_with fail
        refine (part_q _ ⟨#[115]⟩ p3 (m % 60000 / 1000) _ (by omega) (by omega) (by decide) HP3.out).mono ?_
        rintro e w3 ⟨rfl, hb3⟩
        have b3 := b2.trans (hb3.mono b2.size)
        clear b2 hb3
        go_wp2_with fail
        refine (part_q _ ⟨#[109, 115]⟩ p4 (m % 1000) _ (by omega) (by omega) (by decide) HP4.out).mono ?_
        rintro e w4 ⟨rfl, hb4⟩
        have b4 := b3.trans (hb4.mono b3.size)
        clear b3 hb4
        go_wp2
        go_ret
        exact ⟨ret_str (mk_of HT.out).symm, b4⟩
end Go.Proofs.YtegljoikdfjepaaDoor
