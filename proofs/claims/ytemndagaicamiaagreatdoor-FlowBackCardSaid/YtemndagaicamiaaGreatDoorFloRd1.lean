/- The contracts of the program's contains, isColonEnd and plainEnd. -/
import Derived.Test.YtemndagaicamiaaGreatDoorFloSc
import Derived.Deep.LoopGhost
namespace Go.Proofs.YtemndagaicamiaaGreatDoor
open Go.RowKit Go.Sort
open Nw N8 Q6 F9 Go.ChangeShapes Go.WideShapes
set_option linter.unusedVariables false
theorem fcontains_any (s : ByteArray) (l : List UInt8) (hl : s.data.toList = l) (c : UInt8) (b : Bool) (hb : has l c = b) (w : World) :
    Calls Tryz.prog 71 #[.string s, .int .u8 c.toNat] w fun e w' => e = .returned (.bool b) ∧ w = w' := by
  subst hl; subst hb
  have H := Lib.hid (index_has s.data.toList c)
  have hc : ((c.toNat : Int)).toNat.toUInt8 = c := by simp
  have hI := Tryz.strings_IndexByte s (c.toNat : Int)
  rw [hc] at hI
  generalize Lib.indexByte s.data.toList c = x at *
  clear hc
  go_enter Tryz.func71, Tryz.ntmps71
  go_wp2_with (go_at_call 68; refine (hI _).mono ?_; rintro e w' ⟨rfl, hw⟩; subst hw)
  go_ret
  exact ⟨ret_b H.out, rfl⟩
theorem has_sp (c : UInt8) : has [44, 91, 93, 123, 125, 32] c = (isC 32 c || has marks c) := by
  have h1 : has marks c = (isC 44 c || (isC 91 c || (isC 93 c || (isC 123 c || isC 125 c)))) := by
    unfold has marks isC
    simp only [List.mem_cons, List.not_mem_nil, or_false, Bool.decide_or]
  have h2 : has [44, 91, 93, 123, 125, 32] c = (isC 44 c || (isC 91 c || (isC 93 c || (isC 123 c || (isC 125 c || isC 32 c))))) := by
    unfold has isC
    simp only [List.mem_cons, List.not_mem_nil, or_false, Bool.decide_or]
  rw [h1, h2]
  cases isC 44 c <;> cases isC 91 c <;> cases isC 93 c <;> cases isC 123 c <;> cases isC 125 c <;> cases isC 32 c <;> rfl
theorem colonEnd_any (s : ByteArray) (b : Bool) (h : (decide (s.data.toList = []) || isC 32 (s.data.toList.headD 0) || has marks (s.data.toList.headD 0)) = b) (w : World) :
    Calls Tryz.prog 72 #[.string s] w fun e w' => e = .returned (.bool b) ∧ w = w' := by
  by_cases h0 : s.data.toList = []
  · obtain rfl := bytes_of (l := #[]) h0
    have HB : Hid (true = b) := Lib.hid (by rw [← h]; rfl)
    clear h h0
    go_enter Tryz.func72, Tryz.ntmps72
    go_wp2
    go_ret
    exact ⟨ret_b HB.out, rfl⟩
  · have b0 : s.toList.isEmpty = false := by rw [ByteArray.toList_eq, List.isEmpty_eq_false_iff]; exact h0
    have b0' : ¬ s.toList = [] := by rw [ByteArray.toList_eq]; exact h0
    have hp : 0 < s.size := List.length_pos_iff.2 h0
    obtain ⟨c, hc⟩ : ∃ c, s[0]'hp = c := ⟨_, rfl⟩
    have hhd : s.data.toList.headD 0 = c := by rw [headD_getD, getd s 0 hp, hc]
    rw [decide_eq_false h0, Bool.false_or, hhd, ← has_sp] at h
    have HC := Lib.hid (fun W => fcontains_any ⟨#[44, 91, 93, 123, 125, 32]⟩ _ rfl c b h W)
    have hpz : (0 : Int) < (s.size : Int) := by omega
    clear h h0 hhd
    go_enter Tryz.func72, Tryz.ntmps72
    go_wp2_with (go_at_call 71; refine (HC.out _).mono ?_; rintro e w' ⟨rfl, rfl⟩)
    go_ret
    exact ⟨rfl, rfl⟩
theorem fpln_cons (c : UInt8) (l : L8) : pln (c :: l) = if stops c l then 0 else pln l + 1 := rfl
set_option maxRecDepth 100000 in
set_option maxHeartbeats 8000000 in
theorem plainEnd_any (s : ByteArray) (w : World) (n : Nat) (hn : s.size = n) (hs : n ≤ 1000000) (R : Nat) (hR : pln s.data.toList = R) :
    Calls Tryz.prog 59 #[.string s] w fun e w' => e = .returned (.int .i64 (R : Int)) ∧ w = w' := by
  have HR0 : Hid (0 + pln (s.data.toList.drop 0) = R) := Lib.hid (by rw [List.drop_zero, Nat.zero_add]; exact hR)
  have HLEN : Hid (s.data.toList.length = n) := Lib.hid ((len_eq s).trans hn)
  clear hR
  go_enter Tryz.func59, Tryz.ntmps59
  go_wp2
  go_loop [3, 6] (fun s3 si => ∃ j : Nat, j ≤ n ∧ si = .int .i64 (j : Int) ∧ Hid (j + pln (s.data.toList.drop j) = R)) (fun _ si => n - (intOf si).toNat)
  case atStart => exact ⟨0, Nat.zero_le _, rfl, HR0⟩
  case round =>
    clear HR0
    obtain ⟨j, hj, rfl, HR⟩ := hrel
    by_cases hlt : j < n
    · have hjs : j < s.size := by omega
      have hjz : (j : Int) < (n : Int) := by omega
      have wj : IntKind.i64.wrap ((j : Int) + 1) = (j : Int) + 1 := IntWalk.i64_in _ (by omega)
      have pj : 0 ≤ (j : Int) + 1 := by omega
      have tj : ((j : Int) + 1).toNat = j + 1 := by omega
      have lj : (j : Int) + 1 ≤ (n : Int) := by omega
      obtain ⟨c, hc⟩ : ∃ c, s[j]'hjs = c := ⟨_, rfl⟩
      have hdr := drop_cons (l := s.data.toList) (k := j) (by rw [HLEN.out]; exact hlt)
      rw [getd s j hjs, hc] at hdr
      have HSTOP : Hid (stops c (s.data.toList.drop (j + 1)) = true → j = R) := Lib.hid (fun h => by
        have := HR.out
        rw [hdr, fpln_cons, if_pos h] at this
        omega)
      have HGO : Hid (stops c (s.data.toList.drop (j + 1)) = false → j + 1 + pln (s.data.toList.drop (j + 1)) = R) := Lib.hid (fun h => by
        have := HR.out
        rw [hdr, fpln_cons, h, if_neg Bool.false_ne_true] at this
        omega)
      clear hdr
      cases hm : has marks c with
      | true =>
        have HM := Lib.hid (fun W => fcontains_any ⟨#[44, 91, 93, 123, 125]⟩ _ rfl c true hm W)
        have HX : Hid (j = R) := Lib.hid (HSTOP.out (by unfold stops; rw [hm]; rfl))
        clear hm
        go_wp2_with (go_at_call 71; refine (HM.out _).mono ?_; rintro e w' ⟨rfl, rfl⟩)
        go_ret
        exact ⟨ret_i (by rw [HX.out]), rfl⟩
      | false =>
      have HM := Lib.hid (fun W => fcontains_any ⟨#[44, 91, 93, 123, 125]⟩ _ rfl c false hm W)
      cases h58 : isC 58 c with
      | false =>
        have m58 := (isC_beq 58 c 58 rfl).trans h58
        have HX := Lib.hid (HGO.out (by unfold stops; rw [hm, h58]; rfl))
        clear hm h58
        go_wp2_with (go_at_call 71; refine (HM.out _).mono ?_; rintro e w' ⟨rfl, rfl⟩)
        go_round
        case rel => exact ⟨j + 1, by omega, by go_num, HX⟩
        case measure => simp [intOf]; omega
      | true =>
      have m58 := (isC_beq 58 c 58 rfl).trans h58
      obtain ⟨t, ht⟩ : ∃ t, s.extract (j + 1) n = t := ⟨_, rfl⟩
      have htd : t.data.toList = s.data.toList.drop (j + 1) := by rw [← ht, ← hn]; exact rest_data s (j + 1)
      cases hst : stops c (s.data.toList.drop (j + 1)) with
      | true =>
        have HX : Hid (j = R) := Lib.hid (HSTOP.out hst)
        have HC := Lib.hid (fun W => colonEnd_any t true (by rw [htd]; unfold stops at hst; rw [hm, h58, Bool.false_or, Bool.true_and] at hst; exact hst) W)
        clear hm h58 hst htd HSTOP HGO
        go_wp2_with (first
          | (go_at_call 71; refine (HM.out _).mono ?_; rintro e w' ⟨rfl, rfl⟩)
          | (go_at_call 72; refine (HC.out _).mono ?_; rintro e w' ⟨rfl, rfl⟩))
        go_ret
        exact ⟨ret_i (by rw [HX.out]), rfl⟩
      | false =>
        have HX := Lib.hid (HGO.out hst)
        have HC := Lib.hid (fun W => colonEnd_any t false (by rw [htd]; unfold stops at hst; rw [hm, h58, Bool.false_or, Bool.true_and] at hst; exact hst) W)
        clear hm h58 hst htd HSTOP HGO
        go_wp2_with (first
          | (go_at_call 71; refine (HM.out _).mono ?_; rintro e w' ⟨rfl, rfl⟩)
          | (go_at_call 72; refine (HC.out _).mono ?_; rintro e w' ⟨rfl, rfl⟩))
        go_round
        case rel => exact ⟨j + 1, by omega, by go_num, HX⟩
        case measure => simp [intOf]; omega
    · obtain rfl : j = n := by omega
      have HX : Hid (j = R) := Lib.hid (by
        have := HR.out
        rw [List.drop_of_length_le (by rw [HLEN.out]; exact Nat.le_refl _)] at this
        exact this)
      go_wp2
      go_ret
      exact ⟨ret_i (by rw [HX.out]), rfl⟩
end Go.Proofs.YtemndagaicamiaaGreatDoor
