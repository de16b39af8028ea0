/- The contract of bigEndian. -/
import Derived.Test.YtefjdbgmakddjaaShaBytes
namespace Go.Proofs.Ytefjdbgmakddjaa
open Go.RowKit
open Sh
set_option linter.unusedVariables false
/-- The four bytes of a word, that of the most weight first. -/
def beW (x : Int) : List UInt8 := [UInt8.ofNat (x / 16777216).toNat, UInt8.ofNat (x / 65536).toNat, UInt8.ofNat (x / 256).toNat, UInt8.ofNat x.toNat]
def beL (l : List Int) : List UInt8 := (l.map beW).flatten
theorem encB_of (z : Int) (h : 0 ≤ z) : encB (UInt8.ofNat z.toNat) = .int .u8 (z % 256) := by
  unfold encB
  rw [UInt8.toNat_ofNat']
  congr 1
  omega
theorem wrap8 (z : Int) : IntKind.u8.wrap z = z % 256 := by simp [IntKind.wrap, IntKind.bits, IntKind.signed]
theorem beW_enc (x : Int) (h : 0 ≤ x) : (beW x).map encB = [.int .u8 (x / 16777216 % 256), .int .u8 (x / 65536 % 256), .int .u8 (x / 256 % 256), .int .u8 (x % 256)] := by
  show [encB _, encB _, encB _, encB _] = _
  rw [encB_of _ (by omega), encB_of _ (by omega), encB_of _ (by omega), encB_of _ h]
theorem beL_len (l : List Int) : (beL l).length = 4 * l.length := by
  induction l with
  | nil => rfl
  | cons c l ih => show (beW c ++ beL l).length = _; rw [List.length_append, ih, List.length_cons]; show 4 + _ = _; omega
theorem beL_snoc {l : List Int} {k : Nat} (h : k < l.length) : beL (l.take (k + 1)) = beL (l.take k) ++ beW l[k] := by
  unfold beL
  rw [List.take_succ_eq_append_getElem h, List.map_append, List.flatten_append]; simp
theorem four_one (a b c d : Int) : ∀ u ∈ [Value.int .u8 a, Value.int .u8 b, Value.int .u8 c, Value.int .u8 d], u.oneCell' = true := by
  intro u hu
  simp at hu
  rcases hu with rfl | rfl | rfl | rfl <;> rfl
set_option maxHeartbeats 4000000 in
theorem bigEndian_any (v : Value) (l : List Int) (w : World) (h : RE encU w v l) (hl : l.length ≤ 100) (hw : ∀ x ∈ l, 0 ≤ x) :
    Calls Try.prog 26 #[v] w fun e w' => e = .returned (.string ⟨(beL l).toArray⟩) ∧ Below w.heap.size w w' := by
  obtain ⟨i0, hi, hz0, hz1, hz2⟩ := infoB
  obtain ⟨a, cap, rfl, h1, h2, h3⟩ := h
  unfold maxLen at h2
  have H3 := Lib.hid h3
  have HW := Lib.hid hw
  clear h3 hw
  obtain ⟨n, hn⟩ : ∃ n, n = l.length := ⟨_, rfl⟩
  rw [← hn] at h1 hl ⊢
  have HN := Lib.hid hn
  clear hn
  obtain ⟨w1, hmk, hown1, hgr1⟩ := run_make_own (P := Try.prog) w w.heap.size 46 5 i0 _ 1 Try.underlying46 hi hz0 hz1 .i64 .i64 (4 * n) (by rw [hz2]; omega) (by unfold maxLen; omega) (Nat.le_refl _)
  have hb1 : Below w.heap.size w w1 := (Below.refl _ _).grown hgr1 (Nat.le_refl _) (by intro p hp; cases hp)
  have HO1 := Lib.hid hown1
  have HB1 := Lib.hid hb1
  have h4n : ((4 * n : Nat) : Int) = 4 * (n : Int) := by omega
  rw [h4n] at hmk
  clear hown1 hgr1 hb1 h4n
  have hw4 : IntKind.i64.wrap (4 * (n : Int)) = 4 * (n : Int) := by exact wrap_sm (by omega) (by omega)
  go_enter Try.func26, Try.ntmps26
  go_wp2
  go_loopw [3, 12] (fun sv si wr => ∃ k : Nat, k ≤ n ∧ si = .int .i64 (k : Int) ∧ wr.ownsRow w.heap.size 5 1 sv (4 * k) ((beL (l.take k)).map encB) ∧ Below w.heap.size w wr ∧ sv ≠ .slice none 0 0) (fun _ si _ => n - (intOf si).toNat)
  case atStart => exact ⟨0, Nat.zero_le _, rfl, HO1.out, HB1.out, by simp⟩
  case round =>
    clear hmk HO1 HB1
    obtain ⟨k, hk, rfl, hown, hbel, hnn⟩ := hrel
    have HNN := Lib.hid hnn
    have HB := Lib.hid hbel
    clear hnn hbel
    by_cases hlt : k < n
    · have hkl : k < l.length := by rw [← HN.out]; exact hlt
      rcases H3.out with ⟨h0, -⟩ | ⟨b, ha, hbl, hcs⟩
      · rw [h0] at hkl; exact absurd hkl (Nat.not_lt_zero _)
      subst ha
      have hc : wr.cell? ⟨b, k, none⟩ = some (.int .u32 (l[k]'hkl)) := (HB.out.cell (p := ⟨b, k, none⟩) hbl).trans (hcs k hkl)
      have HX := Lib.hid (beL_snoc hkl)
      have hx0 := HW.out _ (List.getElem_mem hkl)
      clear hcs
      obtain ⟨x, hx⟩ : ∃ x, l[k]'hkl = x := ⟨_, rfl⟩
      rw [hx] at hc HX hx0
      have HE := Lib.hid (beW_enc x hx0)
      clear hx hkl
      have s3 := wrap8 (x / 16777216)
      have s2 := wrap8 (x / 65536)
      have s1 := wrap8 (x / 256)
      have s0 := wrap8 x
      obtain ⟨YS, hYS⟩ : ∃ YS, YS = (beL (l.take k)).map encB := ⟨_, rfl⟩
      rw [← hYS] at hown
      have HYS := Lib.hid hYS
      have HOy := Lib.hid hown
      clear hYS
      go_wp2_with (at_builtin; refine wpList_append_own _ rfl _ _ 46 rfl w.heap.size 5 i0 _ 1 1 Try.underlying46 hi hz0 hz1 hz2 rfl (by decide) _ _ _ rfl (hown.alloc _) ⟨wr.heap.size, 0, none⟩ 4 4 [.int .u8 (x / 16777216 % 256), .int .u8 (x / 65536 % 256), .int .u8 (x / 256 % 256), .int .u8 (x % 256)] rfl rfl ?c1 ?c2 ?c3 ?c4 ?c5 ?_)
      case c1 => exact cells_new wr _ _
      case c2 => exact four_one _ _ _ _
      case c3 => unfold maxLen; omega
      case c4 => omega
      case c5 => have := HB.out.size; simp; omega
      · intro v' w2 hown' hgrow hnil
        have HW2 := Lib.hid hown'
        have HG2 := Lib.hid hgrow
        have HNil := Lib.hid hnil
        clear hown' hgrow hown hnil
        go_wp2
        go_roundw
        case measure => simp [intOf]; omega
        case rel =>
          refine ⟨k + 1, by omega, by go_num, ?_, ?_, fun e => by first | exact HNil.out e | exact HNN.out (HNil.out.1 e).1⟩
          · rw [HX.out, List.map_append, HE.out, ← HYS.out]; exact HW2.out
          · refine (HB.out.alloc HB.out.size _).grown HG2.out (by have := HB.out.size; simp; omega) ?_
            intro q hq
            exact (HOy.out.lt q hq).1
    · obtain rfl : k = n := by omega
      have HT : Hid (l.take k = l) := Lib.hid (List.take_of_length_le (by rw [← HN.out]; exact Nat.le_refl _))
      obtain ⟨g, cap2, hv, hcv⟩ := own_conv (l := beL l) (by rw [HT.out] at hown; exact hown) HNN.out
      subst hv
      clear hown
      obtain ⟨R, hR⟩ : ∃ R, beL l = R := ⟨_, rfl⟩
      rw [hR] at hcv
      have HR := Lib.hid hR
      clear hR
      go_wp2
      go_ret
      exact ⟨ret_s (by rw [HR.out]), HB.out⟩
end Go.Proofs.Ytefjdbgmakddjaa
