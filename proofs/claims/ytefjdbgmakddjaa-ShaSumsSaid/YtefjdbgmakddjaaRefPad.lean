/- The contract of the document's own Pad. -/
import Derived.Test.YtefjdbgmakddjaaShaPad
namespace Go.Proofs.Ytefjdbgmakddjaa
open Go.RowKit
open Sh
set_option linter.unusedVariables false
theorem lenB_get (n m : Nat) (hl : m < (lenB n).length) : (lenB n)[m]'hl = UInt8.ofNat (8 * n / 256 ^ (7 - m)) := by
  have h8 : m < (List.range 8).length := by rw [List.length_range]; rw [lenB_len] at hl; exact hl
  have e : (lenB n)[m]'hl = UInt8.ofNat (8 * n / 256 ^ (7 - (List.range 8)[m]'h8)) := List.getElem_map _
  rw [e, List.getElem_range]
theorem lenB_snoc (n : Nat) {m : Nat} (h : m < 8) : (lenB n).take (m + 1) = (lenB n).take m ++ [UInt8.ofNat (8 * n / 256 ^ (7 - m))] := by
  have hl : m < (lenB n).length := by rw [lenB_len]; exact h
  rw [List.take_succ_eq_append_getElem hl, lenB_get]
def slLen : Value → Nat
  | .slice _ n _ => n
  | _ => 0
theorem OB.len {w : World} {base : Nat} {v : Value} {l : List UInt8} (h : OB w base v l) : ∃ a cap, v = .slice a l.length cap ∧ l.length ≤ cap := by
  obtain ⟨g, cap, cur, fr, h1, h2, h3, h4, h5⟩ := h
  exact ⟨_, cap, h1, h4⟩
theorem encB_nat (V : Nat) : encB (UInt8.ofNat V) = .int .u8 ((V % 256 : Nat) : Int) := by
  unfold encB
  rw [UInt8.toNat_ofNat']
theorem int_eq {k : IntKind} {a b : Int} (h : a = b) : Value.int k a = .int k b := by rw [h]
theorem rep_snoc (j : Nat) : List.replicate (j + 1) (0 : UInt8) = List.replicate j 0 ++ [0] := List.replicate_succ'
theorem enc0 : encB 0 = .int .u8 0 := rfl
theorem enc128 : encB 128 = .int .u8 128 := rfl
theorem div_step (N k : Nat) : N / 256 ^ k / 256 = N / 256 ^ (k + 1) := by rw [Nat.div_div_eq_div_mul, Nat.pow_succ]
set_option maxHeartbeats 4000000 in
theorem RPad_any (s : ByteArray) (w : World) (hs : s.size ≤ 4000) :
    Calls Try.prog 14 #[.string s] w fun e w' => e = .returned (.string ⟨(padL s.data.toList).toArray⟩) ∧ Below w.heap.size w w' := by
  obtain ⟨i0, hi, hz0, hz1, hz2⟩ := infoB
  obtain ⟨n, hn⟩ : ∃ n, s.size = n := ⟨_, rfl⟩
  obtain ⟨l, hl⟩ : ∃ l, s.data.toList = l := ⟨_, rfl⟩
  have hlen : l.length = n := by rw [← hn, ← hl]; rfl
  obtain ⟨z, hz⟩ : ∃ z, padZ n = z := ⟨_, rfl⟩
  have HZ : Hid ((119 - n % 64) % 64 = z) := Lib.hid hz
  have hz63 : z < 64 := by rw [← hz]; exact Nat.mod_lt _ (by decide)
  have HP : Hid (padL s.data.toList = ((l ++ [128]) ++ List.replicate z 0) ++ lenB n) := Lib.hid (by unfold padL; rw [hl, hlen, hz])
  obtain ⟨v1, w1, hcv, hob, hb1⟩ := ob_of_string w s hs
  rw [hl] at hob
  have HO := Lib.hid hob
  have HB := Lib.hid hb1
  have HLn := Lib.hid hlen
  have HLs : Hid ((l ++ [128] : List UInt8).length = n + 1) := Lib.hid (by rw [List.length_append, hlen]; rfl)
  clear hz hl hlen hob hb1
  go_enter Try.func14, Try.ntmps14
  go_wp2_with (at_builtin; refine wpList_append_ob rfl _ _ rfl w.heap.size i0 hi hz0 hz1 hz2 _ l rfl (HO.out.alloc _) ⟨w1.heap.size, 0, none⟩ 1 128 rfl (new_cell w1 _ _) ?c1 ?c2 ?_)
  case c1 => have := HLn.out; omega
  case c2 => have := HB.out.size; simp; omega
  intro v2 w2 hob2 hb2
  have HO2 := Lib.hid hob2
  have HB2 : Hid (Below w.heap.size w w2) := Lib.hid ((HB.out.alloc HB.out.size _).trans hb2)
  clear hob2 hb2 HO hcv
  go_wp2
  go_loopw [4] (fun sv wr => ∃ j : Nat, j ≤ z ∧ OB wr w.heap.size sv ((l ++ [128]) ++ List.replicate j 0) ∧ Below w.heap.size w wr) (fun sv _ => (n + 1 + z) - slLen sv)
  case atStart => exact ⟨0, Nat.zero_le _, by rw [List.replicate_zero, List.append_nil]; exact HO2.out, HB2.out⟩
  case round =>
    clear HO2 HB2 HB
    obtain ⟨j, hj, hob, hbel⟩ := hrel
    have HO := Lib.hid hob
    have HB := Lib.hid hbel
    obtain ⟨a, cap, hv, hcap⟩ := hob.len
    have hT : ((l ++ [128]) ++ List.replicate j (0 : UInt8)).length = n + 1 + j := by rw [List.length_append, HLs.out, List.length_replicate]
    rw [hT] at hv hcap
    subst hv
    clear hob hbel
    obtain ⟨T, hTe⟩ : ∃ T, n + 1 + j = T := ⟨_, rfl⟩
    rw [hTe] at HO hcap ⊢
    have HT := Lib.hid hT
    clear hT
    by_cases hlt : j < z
    · have hq : ¬ T % 64 = 56 := by have := HZ.out; omega
      obtain ⟨q, hqe⟩ : ∃ q, T % 64 = q := ⟨_, rfl⟩
      have f1 : (T : Int).tmod 64 = (q : Int) := by rw [Int.tmod_eq_emod_of_nonneg (by omega)]; omega
      have f2 : (T : Int) % 64 = (q : Int) := by omega
      have f3 : ((q : Int) == 56) = false := beq_f (by omega)
      have f4 : ((q : Int) != 56) = true := by simp [bne, f3]
      have f5 : ¬ (q : Int) = 56 := by omega
      obtain ⟨B, hB⟩ : ∃ B, (l ++ [128]) ++ List.replicate j (0 : UInt8) = B := ⟨_, rfl⟩
      rw [hB] at HO HT
      have HBB := Lib.hid hB
      clear hq hqe hB
      go_wp2_with (at_builtin; refine wpList_append_ob rfl _ _ rfl w.heap.size i0 hi hz0 hz1 hz2 _ _ rfl (HO.out.alloc _) ⟨wr.heap.size, 0, none⟩ 1 0 rfl (new_cell wr _ _) ?c1 ?c2 ?_)
      case c1 => rw [HT.out]; omega
      case c2 => have := HB.out.size; simp; omega
      intro v3 w3 hob3 hb3
      have HO3 := Lib.hid hob3
      have HB3 : Hid (Below w.heap.size w w3) := Lib.hid ((HB.out.alloc HB.out.size _).trans hb3)
      obtain ⟨a3, cap3, hv3, hcap3⟩ := hob3.len
      have hlen3 : (B ++ [0] : List UInt8).length = T + 1 := by rw [List.length_append, HT.out, hTe]; rfl
      rw [hlen3] at hv3
      subst hv3
      clear hob3 hb3 hlen3 hcap3
      go_wp2
      go_roundw
      case measure => simp [slLen]; omega
      case rel =>
        refine ⟨j + 1, by omega, ?_, HB3.out⟩
        rw [rep_snoc, ← List.append_assoc, HBB.out]
        exact HO3.out
    · obtain rfl : j = z := by omega
      have hq : T % 64 = 56 := by have := HZ.out; omega
      have f1 : (T : Int).tmod 64 = 56 := by rw [Int.tmod_eq_emod_of_nonneg (by omega)]; omega
      have f2 : (T : Int) % 64 = 56 := by omega
      obtain ⟨B0, hB0⟩ : ∃ B0, (l ++ [128]) ++ List.replicate j (0 : UInt8) = B0 := ⟨_, rfl⟩
      rw [hB0] at HO HT
      have HB0 := Lib.hid hB0
      obtain ⟨w0, hw0⟩ : ∃ w0, w0 = wr := ⟨_, rfl⟩
      subst hw0
      clear hq hB0
      go_wp2
      go_loopw [4, 5] (fun sv si wr => ∃ m : Nat, m ≤ 8 ∧ si = .int .i64 (7 - (m : Int)) ∧ OB wr w.heap.size sv (B0 ++ (lenB n).take m) ∧ Below w.heap.size w wr) (fun _ si _ => (intOf si + 1).toNat)
      case atStart => exact ⟨0, by omega, rfl, by rw [List.take_zero, List.append_nil]; exact HO.out, HB.out⟩
      case round =>
        clear HO HB
        obtain ⟨m, hm, rfl, hob, hbel⟩ := hrel
        have HO := Lib.hid hob
        have HB := Lib.hid hbel
        obtain ⟨a2, cap2, hv, hcap2⟩ := hob.len
        have hT2 : (B0 ++ (lenB n).take m).length = T + m := by rw [List.length_append, HT.out, hTe, List.length_take, lenB_len]; omega
        rw [hT2] at hv hcap2
        subst hv
        have HT2 := Lib.hid hT2
        clear hob hbel hT2
        by_cases hlt2 : m < 8
        · obtain ⟨I, hI⟩ : ∃ I : Nat, 7 - m = I := ⟨_, rfl⟩
          have hIz : (7 : Int) - (m : Int) = (I : Int) := by omega
          have HI := Lib.hid hI
          rw [hIz]
          have i0z : (0 : Int) ≤ (I : Int) := by omega
          have hI7 : I ≤ 7 := by omega
          have u1 : IntKind.u64.wrap (n : Int) = (n : Int) := wrap64u (by omega) (by omega)
          obtain ⟨E, hE⟩ : ∃ E, 8 * n = E := ⟨_, rfl⟩
          have u2 : (n : Int) * 8 = (E : Int) := by omega
          have u3 : IntKind.u64.wrap (E : Int) = (E : Int) := wrap64u (by omega) (by omega)
          have HEb : Hid (E ≤ 32000) := Lib.hid (by omega)
          have HE := Lib.hid hE
          have HX := Lib.hid (lenB_snoc n hlt2)
          rw [hE, hI] at HX
          clear hIz hE hI
          obtain ⟨w5, hw5⟩ : ∃ w5, w5 = wr := ⟨_, rfl⟩
          subst hw5
          go_wp2
          go_loopw [6, 7] (fun sv sk wr => ∃ k V : Nat, k ≤ I ∧ sk = .int .i64 (k : Int) ∧ sv = .int .u64 (V : Int) ∧ E / 256 ^ k = V ∧ w5 = wr) (fun _ sk _ => I - (intOf sk).toNat)
          case atStart => exact ⟨0, E, Nat.zero_le _, rfl, rfl, by rw [Nat.pow_zero, Nat.div_one], rfl⟩
          case round =>
            obtain ⟨k, V, hk, rfl, rfl, hV, hwr⟩ := hrel
            subst hwr
            have hVE : V ≤ 32000 := by rw [← hV]; exact Nat.le_trans (Nat.div_le_self _ _) HEb.out
            have HVV := Lib.hid hV
            clear hV
            by_cases hki : k < I
            · have hkz : (k : Int) < (I : Int) := by omega
              obtain ⟨V2, hV2⟩ : ∃ V2, V / 256 = V2 := ⟨_, rfl⟩
              have HV2 : Hid (E / 256 ^ (k + 1) = V2) := Lib.hid (by rw [← div_step, HVV.out]; exact hV2)
              have g1 : (V : Int) / 256 = (V2 : Int) := by omega
              have g2 : (V : Int).tdiv 256 = (V2 : Int) := by rw [Int.tdiv_eq_ediv_of_nonneg (by omega)]; omega
              have g3 : IntKind.u64.wrap (V2 : Int) = (V2 : Int) := wrap64u (by omega) (by omega)
              clear hV2
              go_wp2
              go_roundw
              case measure => simp [intOf]; omega
              case rel => exact ⟨k + 1, V2, by omega, by go_num, rfl, HV2.out, trivial⟩
            · obtain rfl : k = I := by omega
              obtain ⟨b, hb⟩ : ∃ b, V % 256 = b := ⟨_, rfl⟩
              have g1 : (V : Int) % 256 = (b : Int) := by omega
              have g2 : (V : Int).tmod 256 = (b : Int) := by rw [Int.tmod_eq_emod_of_nonneg (by omega)]; omega
              have g3 : IntKind.u8.wrap (b : Int) = (b : Int) := by rw [wrap8]; omega
              have g4 : (b : Int) % 256 = (b : Int) := by omega
              rw [HVV.out] at HX
              have HE2 : Hid (Value.int .u8 (b : Int) = encB (UInt8.ofNat V)) := Lib.hid (by rw [encB_nat, hb])
              have hcap2' : T + m + 1 ≤ 10000 := by have := HT.out; omega
              clear hb
              obtain ⟨B1, hB1⟩ : ∃ B1, B0 ++ (lenB n).take m = B1 := ⟨_, rfl⟩
              rw [hB1] at HO HT2
              have HB1 := Lib.hid hB1
              clear hB1
              go_wp2_with (at_builtin; refine wpList_append_ob rfl _ _ rfl w.heap.size i0 hi hz0 hz1 hz2 _ _ rfl (HO.out.alloc _) ⟨w5.heap.size, 0, none⟩ 1 (UInt8.ofNat V) rfl ?c0 ?c1 ?c2 ?_)
              case c0 => rw [← HE2.out]; exact new_cell w5 _ _
              case c1 => rw [HT2.out]; omega
              case c2 => have := HB.out.size; simp; omega
              intro v3 w3 hob3 hb3
              have HO3 := Lib.hid hob3
              have HB3 : Hid (Below w.heap.size w w3) := Lib.hid ((HB.out.alloc HB.out.size _).trans hb3)
              clear hob3 hb3
              go_wp2
              go_roundw
              case measure => simp [intOf] <;> omega
              case rel =>
                refine ⟨m + 1, by omega, int_eq (by have := HI.out; omega), ?_, HB3.out⟩
                rw [HX.out, ← List.append_assoc, HB1.out]
                exact HO3.out
        · obtain rfl : m = 8 := by omega
          have hfull : Hid (B0 ++ (lenB n).take 8 = padL s.data.toList) := Lib.hid (by rw [HP.out, List.take_of_length_le (by rw [lenB_len]; exact Nat.le_refl _), HB0.out])
          obtain ⟨g, cap3, hv3, hcv⟩ := HO.out.read
          rw [HT2.out] at hv3 hcv
          rw [hfull.out] at hcv
          obtain ⟨R, hR⟩ : ∃ R, padL s.data.toList = R := ⟨_, rfl⟩
          rw [hR] at hcv
          have HR := Lib.hid hR
          injection hv3 with e1 e2 e3
          subst e1; subst e3
          clear hR e2
          go_wp2
          go_ret
          exact ⟨ret_s (by rw [HR.out]), HB.out⟩
end Go.Proofs.Ytefjdbgmakddjaa
