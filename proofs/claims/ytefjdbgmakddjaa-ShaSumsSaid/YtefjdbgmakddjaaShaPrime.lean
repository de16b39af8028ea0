/- The contracts of Primes, of the program and of the document's own. -/
import Derived.Test.YtefjdbgmakddjaaShaRd
namespace Go.Proofs.Ytefjdbgmakddjaa
open Go.RowKit Go.Sort Go.Lib
open Sh Pr
set_option linter.unusedVariables false

theorem mod_nat (c p : Nat) : ((c : Int).tmod (p : Int)) = ((c % p : Nat) : Int) := by
  rw [Int.tmod_eq_emod_of_nonneg (by omega)]; exact (Int.natCast_emod c p).symm
theorem all_take_false {l : List Nat} {q : Nat → Bool} {k : Nat} (hk : k < l.length) (h : q l[k] = false) : l.all q = false := by
  rw [List.all_eq_false]; exact ⟨l[k], List.getElem_mem _, by rw [h]; decide⟩
theorem all_of_each {l : List Nat} {q : Nat → Bool} (h : ∀ j (hj : j < l.length), q l[j] = true) : l.all q = true := by
  rw [List.all_eq_true]
  intro x hx
  obtain ⟨j, hj, rfl⟩ := List.getElem_of_mem hx
  exact h j hj
theorem ne_beq (m : Nat) : (m != 0) = !((m : Int) == 0) := by
  by_cases h : m = 0
  · subst h; rfl
  · have h1 : ((m : Int) == 0) = false := beq_eq_false_iff_ne.2 (by omega)
    rw [h1]; simpa using h
theorem ne_true {m : Nat} (h : m ≠ 0) : (m != 0) = true := by simpa using h
theorem ne_false {m : Nat} (h : m = 0) : (m != 0) = false := by simpa using h

set_option maxHeartbeats 800000 in
theorem isDivisible_any (c : Nat) (v : Value) (l : List Nat) (w : World) (h : RE encN w v l) (hc : c ≤ 1000) (hl : ∀ p ∈ l, 2 ≤ p ∧ p ≤ 541) :
    Calls Try.prog 22 #[.int .i64 (c : Int), v] w fun e w' => e = .returned (.bool (!(l.all (fun p => c % p != 0)))) ∧ w = w' := by
  obtain ⟨a, cap, rfl, h1, h2, h3⟩ := h
  unfold maxLen at h2
  have HL := Lib.hid hl
  clear hl
  go_enter Try.func22, Try.ntmps22
  go_wp2
  go_loop [6, 9] (fun _ i => ∃ k : Nat, k ≤ l.length ∧ i = .int .i64 k ∧ ∀ j (hj : j < l.length), j < k → (c % l[j] != 0) = true) (fun _ i => l.length - (intOf i).toNat)
  case atStart => exact ⟨0, Nat.zero_le _, rfl, fun j _ h => absurd h (Nat.not_lt_zero _)⟩
  case round =>
    obtain ⟨k, hk, rfl, hall⟩ := hrel
    have HA := Lib.hid hall; clear hall
    by_cases hlt : k < l.length
    · rcases h3 with ⟨rfl, _⟩ | ⟨b, rfl, h4, h5⟩
      · exact absurd hlt (Nat.not_lt_zero _)
      have hlt' := Lib.hid hlt
      have hcell : w.cell? ⟨b, k, none⟩ = some (.int .i64 ((l[k]'hlt : Nat) : Int)) := h5 k hlt
      obtain ⟨p1, p2⟩ := HL.out _ (List.getElem_mem hlt)
      clear h5
      have HK : Hid (∀ j (hj : j < l.length), j = k → l[j] = l[k]'hlt) := Lib.hid fun j hj e => by subst e; rfl
      obtain ⟨p, hp⟩ : ∃ p, l[k]'hlt = p := ⟨_, rfl⟩
      have HP := Lib.hid hp
      rw [hp] at hcell p1 p2
      clear hp
      have hm := mod_nat c p
      have hm1 : c % p ≤ 1000 := Nat.le_trans (Nat.mod_le _ _) hc
      have hpz : ((p : Int) == 0) = false := beq_eq_false_iff_ne.2 (by omega)
      have hpn : ¬ (p : Int) = 0 := by omega
      by_cases hz : c % p = 0
      · have HZ : Hid (l.all (fun p => c % p != 0) = false) := Lib.hid (all_take_false hlt (ne_false (by rw [HP.out]; exact hz)))
        rw [hz] at hm
        clear hz hm1
        go_wp2
        go_ret
        exact ⟨ret_b (by rw [HZ.out]; rfl), rfl⟩
      · have HQ : Hid (∀ j (hj : j < l.length), j = k → (c % l[j] != 0) = true) := Lib.hid fun j hj e => by rw [HK.out j hj e, HP.out]; exact ne_true hz
        have HZ : Hid (c % p ≠ 0) := Lib.hid hz
        have hmz : (((c % p : Nat) : Int) == 0) = false := beq_eq_false_iff_ne.2 (by omega)
        generalize c % p = m at hm hmz hm1 HZ hz
        clear hz
        go_wp2
        go_round
        case rel =>
          refine ⟨k + 1, by omega, by go_num, fun j hj hjk => ?_⟩
          rcases Nat.lt_succ_iff_lt_or_eq.1 hjk with h | h
          · exact HA.out j hj h
          · exact HQ.out j hj h
        case measure => simp [intOf]; omega
    · have HF : Hid (l.all (fun p => c % p != 0) = true) := Lib.hid (all_of_each fun j hj => HA.out j hj (by omega))
      go_wp2
      go_ret
      exact ⟨ret_b (by rw [HF.out]; rfl), rfl⟩

theorem infoN0 : (Try.prog.info? 3).map (fun i => (i.zero, i.size, i.bytes)) = some (some (.int .i64 0), 1, 8) := by kernel_rfl
theorem infoN : ∃ i, Try.prog.info? 3 = some i ∧ i.zero = some (.int .i64 0) ∧ i.size = 1 ∧ i.bytes = 8 := by
  have h := infoN0
  cases hi : Try.prog.info? 3 with
  | none => rw [hi] at h; cases h
  | some i =>
    rw [hi] at h
    simp only [Option.map_some, Option.some.injEq, Prod.mk.injEq] at h
    exact ⟨i, rfl, h.1, h.2.1, h.2.2⟩
theorem own_nil (w : World) (e : TypeId) : (w.alloc (.cells #[] e)).ownsRow w.heap.size e 1 (.slice (some ⟨w.heap.size, 0, none⟩) 0 0) 0 [] := by
  refine ⟨rfl, .inr ⟨w.heap.size, 0, #[], rfl, Nat.le_refl _, ?_, Nat.zero_le _, Nat.zero_le _, rfl, rfl⟩⟩
  show (w.heap.push _)[w.heap.size]? = _
  simp
theorem map_snoc (l : List Nat) (x : Nat) : (l ++ [x]).map encN = l.map encN ++ [.int .i64 (x : Int)] := by simp [encN]

set_option maxHeartbeats 1600000 in
theorem Primes_any (n : Int) (w : World) :
    Calls Try.prog 8 #[.int .i64 n] w fun e w' => ∃ v, e = .returned v ∧ RE encN w' v (primesL n) ∧ Below w.heap.size w w' := by
  obtain ⟨i0, hi, hz0, hz1, hz2⟩ := infoN
  by_cases hout : n < 0 ∨ 100 < n
  · have HP := Lib.hid (primesL_out hout)
    by_cases h1 : n < 0
    · clear hout
      go_enter Try.func8, Try.ntmps8
      go_wp2
      go_ret
      exact ⟨_, rfl, by rw [HP.out]; exact re_empty _ none 0 (Nat.zero_le _) fun _ => rfl, Below.refl _ _⟩
    · have h2 : 100 < n := by omega
      clear hout
      go_enter Try.func8, Try.ntmps8
      go_wp2
      go_ret
      exact ⟨_, rfl, by rw [HP.out]; exact re_empty _ none 0 (Nat.zero_le _) fun _ => rfl, Below.refl _ _⟩
  · obtain ⟨m, rfl⟩ : ∃ m : Nat, n = (m : Int) := ⟨n.toNat, by omega⟩
    have hm : m ≤ 100 := by omega
    have hg : ¬ (100 : Int) < (m : Int) := by omega
    have hn : ¬ (m : Int) < 0 := by omega
    clear hout
    obtain ⟨w1, hmk, hown1, hgr1⟩ := run_make_own (P := Try.prog) w w.heap.size 23 3 i0 _ 1 Try.underlying23 hi hz0 hz1 .i64 .i64 m (by rw [hz2]; omega) (by unfold maxLen; omega) (Nat.le_refl _)
    have hb1 : Below w.heap.size w w1 := (Below.refl _ _).grown hgr1 (Nat.le_refl _) (by intro p hp; cases hp)
    have HO1 := Lib.hid hown1
    have HB1 := Lib.hid hb1
    clear hown1 hgr1 hb1
    go_enter Try.func8, Try.ntmps8
    go_wp2
    go_loopw [3, 4] (fun sv sc wr => ∃ c : Nat, c ≤ 540 ∧ sc = .int .i64 ((c + 2 : Nat) : Int) ∧ (found c).length ≤ m ∧ wr.ownsRow w.heap.size 3 1 sv (found c).length ((found c).map encN) ∧ Below w.heap.size w wr) (fun _ sc _ => 542 - (intOf sc).toNat)
    case atStart => exact ⟨0, Nat.zero_le _, rfl, Nat.zero_le _, HO1.out, HB1.out⟩
    case round =>
      clear hmk
      obtain ⟨c, hc, rfl, hlen, hown, hbel⟩ := hrel
      have HB := Lib.hid hbel
      have HO := Lib.hid hown
      have HR := Lib.hid (re_of_owns hown)
      obtain ⟨a, cap, hv, -⟩ := HR.out
      subst hv
      clear hbel
      by_cases hlt : (found c).length < m
      · have hc4 : c < 540 := found_open hc hm hlt
        have hltz : ((found c).length : Int) < (m : Int) := by omega
        have HI := Lib.hid (isDivisible_any (c + 2) (.slice a (found c).length cap) (found c) wr HR.out (by omega) (found_bd hc))
        cases hD : (found c).all (fun p => (c + 2) % p != 0) with
        | true =>
          have HF := Lib.hid (found_yes hD)
          rw [hD] at HI
          clear hD
          generalize hT : (found c).length = T at hlt hltz hlen hown HI
          have HT := Lib.hid hT
          obtain ⟨YS, hYS⟩ : ∃ YS, YS = (found c).map encN := ⟨_, rfl⟩
          rw [← hYS] at hown
          have HYS := Lib.hid hYS
          have HN := Lib.hid hown
          clear hYS hT
          go_wp2_with (first | (go_at_call 22; refine HI.out.mono ?_; rintro e w2 ⟨rfl, rfl⟩) | (at_builtin; refine wpList_append_own _ rfl _ _ 23 rfl w.heap.size 3 i0 _ 1 8 Try.underlying23 hi hz0 hz1 hz2 rfl (by decide) _ _ _ rfl (hown.alloc _) ⟨wr.heap.size, 0, none⟩ 1 1 [.int .i64 ((c + 2 : Nat) : Int)] rfl rfl ?c1 ?c2 ?c3 ?c4 ?c5 ?_))
          case c1 =>
            intro j u hj
            match j, hj with
            | 0, hj => simp at hj; subst hj; simp [Addr.add]
          case c2 => intro u hu; simp at hu; subst hu; rfl
          case c3 => unfold maxLen; omega
          case c4 => omega
          case c5 => have := HB.out.size; simp; omega
          · intro v' w2 hown' hgrow _
            have HW2 := Lib.hid hown'
            have HG2 := Lib.hid hgrow
            clear hown' hgrow hown
            go_wp2
            go_roundw
            case measure => simp [intOf]; omega
            case rel =>
              refine ⟨c + 1, by omega, by go_num, ?_, ?_, ?_⟩
              · rw [HF.out, List.length_append, HT.out, List.length_singleton]; omega
              · have := HW2.out
                rw [HF.out, List.length_append, HT.out, List.length_singleton, map_snoc, ← HYS.out]; exact this
              · refine (HB.out.alloc HB.out.size _).grown HG2.out (by have := HB.out.size; simp; omega) ?_
                intro p hp
                exact (HN.out.lt p hp).1
        | false =>
          have HF := Lib.hid (found_no hD)
          rw [hD] at HI
          clear hD hown
          generalize hT : (found c).length = T at hlt hltz hlen HI
          have HT := Lib.hid hT
          clear hT
          go_wp2_with (go_at_call 22; refine HI.out.mono ?_; rintro e w2 ⟨rfl, rfl⟩)
          go_roundw
          case measure => simp [intOf]; omega
          case rel =>
            refine ⟨c + 1, by omega, by go_num, ?_, ?_, HB.out⟩
            · rw [HF.out, HT.out]; omega
            · have := HO.out
              rw [HF.out]
              rw [HT.out] at this ⊢
              exact this
      · have heq : (found c).length = m := by omega
        have HPr := Lib.hid (primesL_of hc hm heq)
        have hltz : ¬ ((found c).length : Int) < (m : Int) := by omega
        clear hown
        rw [heq] at hltz ⊢
        rw [heq] at HR
        go_wp2
        go_ret
        exact ⟨_, rfl, by rw [← HPr.out]; exact HR.out, HB.out⟩
end Go.Proofs.Ytefjdbgmakddjaa
