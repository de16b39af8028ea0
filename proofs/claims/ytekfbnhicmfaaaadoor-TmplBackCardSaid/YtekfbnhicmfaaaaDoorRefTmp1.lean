/- The contracts of the document's own Deep and mark. -/
import Derived.Test.YtekfbnhicmfaaaaDoorTmpMem
import Derived.WalkKit
import Derived.ProofKit
import Derived.IntWalk
import Derived.Deep.LoopGhost
import Derived.Below
namespace Go.Proofs.YtekfbnhicmfaaaaDoor
open Go.RowKit Go.Sort
open Nw T13
set_option linter.unusedVariables false
theorem ret_int13 {k : IntKind} {a b : Int} (h : a = b) : Ending.returned (.int k a) = .returned (.int k b) := by rw [h]
theorem ret_s13 {a b : ByteArray} (h : a = b) : Ending.returned (.string a) = .returned (.string b) := by rw [h]
theorem depL_snoc : ∀ (a : List Pt) (p : Pt), depL (a ++ [p]) = max (depL a) (depP p)
  | [], p => by rw [List.nil_append, depL, depL, depL]; omega
  | q :: a, p => by rw [List.cons_append, depL, depL, depL_snoc a p]; omega
theorem depL_take {ps : List Pt} {j : Nat} (h : j < ps.length) : depL (ps.take (j + 1)) = max (depL (ps.take j)) (depP (ps[j]'h)) := by rw [List.take_succ_eq_append_getElem h, depL_snoc]
mutual
theorem depP_cnt : ∀ (p : Pt), depP p ≤ cntP p
  | .mk n t o s => by
    rw [depP, cntP]
    have := depL_cnt s
    split <;> omega
theorem depL_cnt : ∀ (ps : List Pt), depL ps ≤ cntL ps
  | [] => by rw [depL, cntL]; exact Nat.le_refl _
  | p :: ps => by
    rw [depL, cntL]
    have := depP_cnt p
    have := depL_cnt ps
    omega
end
theorem cntL_mem13 : ∀ {ps : List Pt} {p : Pt}, p ∈ ps → cntP p ≤ cntL ps
  | q :: ps, p, h => by
    rw [cntL]
    rcases List.mem_cons.1 h with rfl | h
    · omega
    · have := cntL_mem13 h; omega
theorem cntL_len13 : ∀ (ps : List Pt), ps.length ≤ cntL ps
  | [] => Nat.zero_le _
  | .mk n t o s :: ps => by
    have := cntL_len13 ps
    rw [cntL, cntP, List.length_cons]; omega
theorem cnt_sub {ps : List Pt} {j : Nat} (h : j < ps.length) {n t : L8} {o : Int} {s : List Pt} (e : ps[j]'h = .mk n t o s) : cntL s + 1 ≤ cntL ps := by
  have := cntL_mem13 (List.getElem_mem h)
  rw [e, cntP] at this
  omega
set_option maxRecDepth 100000 in
set_option maxHeartbeats 4000000 in
theorem RDeep13_any (N : Nat) : ∀ (ps : List Pt), cntL ps ≤ N → N ≤ 1000000 → ∀ (S : Nat → Prop) (v : Value) (w : World), PtL S w v ps →
    Calls Tryd.prog 14 #[v] w fun e w' => e = .returned (.int .i64 (depL ps : Int)) ∧ w = w' := by
  induction N with
  | zero =>
    intro ps hc _ S v w h
    obtain rfl : ps = [] := List.length_eq_zero_iff.1 (by have := cntL_len13 ps; omega)
    obtain ⟨A, cap, rfl, -⟩ := h
    have HZ : Hid ((0 : Int) = (depL [] : Int)) := Lib.hid (by rw [depL]; rfl)
    go_enter Tryd.func14, Tryd.ntmps14
    go_wp2
    go_loop [3, 4] (fun out i => out = .int .i64 0 ∧ i = .int .i64 0) (fun _ _ => 0)
    case atStart => exact ⟨rfl, rfl⟩
    case round =>
      obtain ⟨rfl, rfl⟩ := hrel
      go_wp2
      go_ret
      exact ⟨ret_int13 HZ.out, rfl⟩
  | succ N ih =>
    intro ps hc hN S v w h
    have HIH := Lib.hid ih
    have HP := Lib.hid h
    have hln := cntL_len13 ps
    obtain ⟨A, cap, rfl, hcap, hcm, -⟩ := h
    unfold maxLen at hcm
    have HC := Lib.hid hc
    obtain ⟨n, hn⟩ : ∃ n, n = ps.length := ⟨_, rfl⟩
    rw [← hn] at hcap hln HP ⊢
    have HN := Lib.hid hn
    have hn1 : n ≤ 1000000 := by omega
    have HN1 := Lib.hid hN
    clear ih hc hn hln hN
    go_enter Tryd.func14, Tryd.ntmps14
    go_wp2
    go_loop [3, 4] (fun out i => ∃ j : Nat, j ≤ n ∧ i = .int .i64 (j : Int) ∧ out = .int .i64 (depL (ps.take j) : Int)) (fun _ i => n - (intOf i).toNat)
    case atStart => exact ⟨0, Nat.zero_le _, rfl, by rw [List.take_zero, depL]; rfl⟩
    case round =>
      obtain ⟨j, hj, rfl, rfl⟩ := hrel
      by_cases hlt : j < n
      · have hjl : Hid (j < ps.length) := Lib.hid (by have := HN.out; omega)
        obtain ⟨b, o, e0, e1, e2, e3, rfl, -, x0, x1, x2, x3, hsub⟩ := PtL.at_ HP.out j hjl.out
        have hstep := depL_take hjl.out
        have hcs := @cnt_sub ps j hjl.out
        obtain ⟨p, hp⟩ : ∃ p, ps[j]'hjl.out = p := ⟨_, rfl⟩
        rw [hp] at hsub hstep
        obtain ⟨nm, tx, op, sb⟩ := p
        have hcs2 := hcs hp
        obtain ⟨rfl, rfl, rfl, hsb⟩ := hsub.sub
        have hjz : (j : Int) < (n : Int) := by omega
        have hjc : (j : Int) < (cap : Int) := by omega
        have hdl : depL sb ≤ 1000000 := by have := depL_cnt sb; have := HC.out; have := HN1.out; omega
        have hdt : depL (ps.take j) ≤ 1000000 := by
          have h1 := depL_cnt (ps.take j)
          have h2 : cntL (ps.take j) ≤ cntL ps := by
            conv => rhs; rw [← List.take_append_drop j ps]
            generalize ps.take j = a
            generalize ps.drop j = c
            induction a with
            | nil => rw [cntL]; exact Nat.zero_le _
            | cons x a ih => rw [List.cons_append, cntL, cntL]; omega
          have := HC.out; have := HN1.out; omega
        rw [depP] at hstep
        by_cases ho : op = 0
        · rw [if_pos ho, Nat.max_zero] at hstep
          have HST := Lib.hid hstep
          have hne : (op != 0) = false := by rw [ho]; rfl
          clear hsub hp hcs hcs2 hsb hstep ho
          go_wp2
          go_round
          case rel => exact ⟨j + 1, by omega, by go_num, by rw [HST.out]⟩
          case measure => simp [intOf]; omega
        · rw [if_neg ho] at hstep
          have HD := Lib.hid (HIH.out sb (by have := HC.out; omega) (by have := HN1.out; omega) S e3 w hsb)
          have hne : (op != 0) = true := bne_iff_ne.2 ho
          obtain ⟨D, hD⟩ : ∃ D, depL sb = D := ⟨_, rfl⟩
          obtain ⟨T, hT⟩ : ∃ T, depL (ps.take j) = T := ⟨_, rfl⟩
          rw [hD] at HD hstep hdl
          rw [hT] at hstep hdt ⊢
          have HST := Lib.hid hstep
          clear hsub hp hcs hcs2 hsb hstep ho hD hT
          have kw : IntKind.i64.wrap (1 + (D : Int)) = 1 + (D : Int) := IntWalk.i64_in _ (by omega)
          by_cases hgt : T < 1 + D
          · have hgz : (T : Int) < 1 + (D : Int) := by omega
            go_wp2_with (go_at_call 14; refine HD.out.mono ?_; rintro e w' ⟨rfl, rfl⟩)
            go_round
            case rel => exact ⟨j + 1, by omega, by go_num, by rw [HST.out]; congr 1; omega⟩
            case measure => simp [intOf]; omega
          · have hgz : ¬ (T : Int) < 1 + (D : Int) := by omega
            go_wp2_with (go_at_call 14; refine HD.out.mono ?_; rintro e w' ⟨rfl, rfl⟩)
            go_round
            case rel => exact ⟨j + 1, by omega, by go_num, by rw [HST.out]; congr 1; omega⟩
            case measure => simp [intOf]; omega
      · obtain rfl : j = n := by omega
        have HT : Hid (depL (ps.take j) = depL ps) := Lib.hid (by rw [show j = ps.length from HN.out, List.take_length])
        go_wp2
        go_ret
        exact ⟨ret_int13 (by rw [HT.out]), rfl⟩
end Go.Proofs.YtekfbnhicmfaaaaDoor
