/- The contract of the document's own Same, of the same parts. -/
import Derived.Test.YtekfbnhicmfaaaaDoorRefTmp1
import Derived.Deep.QuietTactic
import Derived.BigQuiet
namespace Go.Proofs.YtekfbnhicmfaaaaDoor
open Go.RowKit Go.Sort
open Nw T13
set_option linter.unusedVariables false
theorem PtL.drewN {S : Nat → Prop} {w : World} {v : Value} {ps : List Pt} (h : PtL S w v ps) (n : Nat) : PtL S (w.drewN n) v ps := h.keep fun b hb => ⟨hb, rfl⟩
theorem drewN_add (W : World) (a b : Nat) : (W.drewN a).drewN b = W.drewN (a + b) := by unfold World.drewN; simp only [Nat.add_assoc]
set_option maxRecDepth 100000 in
set_option maxHeartbeats 8000000 in
theorem RSame13_eq (N : Nat) : ∀ (ps : List Pt), cntL ps < N → ∀ (S S' : Nat → Prop) (v u : Value) (w : World), PtL S w v ps → PtL S' w u ps →
    Calls Tryd.prog 15 #[v, u] w fun e w' => e = .returned (.bool true) ∧ ∃ n, w' = w.drewN n := by
  induction N with
  | zero => intro ps hc; omega
  | succ N ih =>
    intro ps hc S S' v u w h h'
    have HIH := Lib.hid ih
    have HP := Lib.hid h
    have HP' := Lib.hid h'
    obtain ⟨A, cap, rfl, hcap, hcm, -⟩ := h
    obtain ⟨A', cap', rfl, hcap', hcm', -⟩ := h'
    unfold maxLen at hcm hcm'
    have HC := Lib.hid hc
    obtain ⟨n, hn⟩ : ∃ n, n = ps.length := ⟨_, rfl⟩
    rw [← hn] at hcap hcap' HP HP' ⊢
    have HN := Lib.hid hn
    have hnn : ((n : Int) != (n : Int)) = false := by simp
    clear ih hc hn
    go_enter Tryd.func15, Tryd.ntmps15
    go_wp2
    go_loopw [5] (fun i wr => ∃ (j q : Nat), j ≤ n ∧ i = .int .i64 (j : Int) ∧ wr = w.drewN q) (fun i _ => n - (intOf i).toNat)
    case atStart => exact ⟨0, 0, Nat.zero_le _, rfl, rfl⟩
    case round =>
      obtain ⟨j, q, hj, rfl, rfl⟩ := hrel
      by_cases hlt : j < n
      · have hjl : Hid (j < ps.length) := Lib.hid (by have := HN.out; omega)
        obtain ⟨W, hW⟩ : ∃ W, w.drewN q = W := ⟨_, rfl⟩
        have h1 := HP.out.drewN q
        have h2 := HP'.out.drewN q
        rw [hW] at h1 h2 ⊢
        obtain ⟨b, o, e0, e1, e2, e3, rfl, -, x0, x1, x2, x3, hsub⟩ := PtL.at_ h1 j hjl.out
        obtain ⟨b', o', f0, f1, f2, f3, rfl, -, y0, y1, y2, y3, hsub'⟩ := PtL.at_ h2 j hjl.out
        have hcs := @cnt_sub ps j hjl.out
        obtain ⟨p, hp⟩ : ∃ p, ps[j]'hjl.out = p := ⟨_, rfl⟩
        rw [hp] at hsub hsub'
        obtain ⟨nm, tx, op, sb⟩ := p
        have hcs2 := hcs hp
        obtain ⟨rfl, rfl, rfl, hsb⟩ := hsub.sub
        obtain ⟨rfl, rfl, rfl, hsb'⟩ := hsub'.sub
        have hjz : (j : Int) < (n : Int) := by omega
        have hjc : (j : Int) < (cap : Int) := by omega
        have hjc' : (j : Int) < (cap' : Int) := by omega
        have HQ : Hid (∀ m, Calls Tryd.prog 15 #[e3, f3] (W.drewN m) fun e w'' => e = .returned (.bool true) ∧ ∃ n, w'' = W.drewN n) := Lib.hid (fun m =>
          (HIH.out sb (by have := HC.out; omega) S S' e3 f3 _ (hsb.drewN _) (hsb'.drewN _)).mono fun e w'' ⟨h, k, hk⟩ => ⟨h, m + k, by rw [hk, drewN_add]⟩)
        obtain ⟨X, hX⟩ : ∃ X, ba nm = X := ⟨_, rfl⟩
        obtain ⟨Y, hY⟩ : ∃ Y, ba tx = Y := ⟨_, rfl⟩
        rw [hX] at x0 y0
        rw [hY] at x1 y1
        have g1 : (X.toList == X.toList) = true := by simp
        have g1' : (X.toList != X.toList) = false := by simp
        have g2 : (Y.toList == Y.toList) = true := by simp
        have g2' : (Y.toList != Y.toList) = false := by simp
        have g3 : (op != op) = false := by simp
        have HWW := Lib.hid hW
        clear hsub hsub' hp hcs hcs2 hsb hsb' hX hY h1 h2 hW
        go_wp2
        go_quiet (first | (go_at_call 15; exact HQ.out _))
        go_wp2
        go_roundw
        case rel => exact ⟨j + 1, q + nq, by omega, by go_num, by rw [← HWW.out, drewN_add]⟩
        case measure => simp [intOf]; omega
      · obtain rfl : j = n := by omega
        go_wp2
        go_ret
        exact ⟨rfl, q, rfl⟩
end Go.Proofs.YtekfbnhicmfaaaaDoor
