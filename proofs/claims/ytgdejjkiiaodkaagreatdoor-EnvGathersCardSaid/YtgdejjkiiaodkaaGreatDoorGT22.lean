/- RefGood, RefDbl -/
import Derived.Test.YtgdejjkiiaodkaaGreatDoorGT18
import Derived.Test.YtgdejjkiiaodkaaGreatDoorGT20
set_option linter.unusedVariables false
set_option linter.unusedSimpArgs false
set_option maxRecDepth 100000
set_option maxHeartbeats 16000000
open Go.Lib (hid)
namespace Go.Proofs.YtgdejjkiiaodkaaGreatDoor
section
open Go.RowKit
open Q6
theorem good_num (c : UInt8) (m : Nat) (hm : c.toNat = m) : good c = (decide (32 ≤ m) && decide (m ≠ 127)) := by subst hm; rfl
theorem Good_any (c : UInt8) (w : World) : Calls Tryz.prog 41 #[.int .u8 c.toNat] w fun e w' => e = .returned (.bool (good c)) ∧ w = w' := by
 have hc := c.toNat_lt
 obtain ⟨m, hm⟩ : ∃ m, c.toNat = m := ⟨_, rfl⟩
 have HG := hid (good_num c m hm)
 rw [hm] at hc ⊢
 clear hm
 by_cases h1 : m < 32
 ·rw [decide_eq_false (by omega : ¬ 32 ≤ m), Bool.false_and] at HG
  have a1 : ¬ (32 : Int) ≤ (m : Int) := by omega
  have a2 : ¬ (128 : Int) ≤ (m : Int) := by omega
  go_enter Tryz.func41, Tryz.ntmps41
  go_wp2
  go_ret
  exact ⟨ret_b HG.out.symm, rfl⟩
 have a1 : (32 : Int) ≤ (m : Int) := by omega
 by_cases h2 : m ≤ 126
 ·rw [decide_eq_true (by omega : 32 ≤ m), decide_eq_true (by omega : m ≠ 127)] at HG
  have a2 : (m : Int) ≤ 126 := by omega
  go_enter Tryz.func41, Tryz.ntmps41
  go_wp2
  go_ret
  exact ⟨ret_b HG.out.symm, rfl⟩
 have a2 : ¬ (m : Int) ≤ 126 := by omega
 by_cases h3 : m = 127
 ·rw [decide_eq_false (by omega : ¬ m ≠ 127), Bool.and_false] at HG
  have a3 : ¬ (128 : Int) ≤ (m : Int) := by omega
  clear h3
  go_enter Tryz.func41, Tryz.ntmps41
  go_wp2
  go_ret
  exact ⟨ret_b HG.out.symm, rfl⟩
 ·rw [decide_eq_true (by omega : 32 ≤ m), decide_eq_true h3] at HG
  have a3 : (128 : Int) ≤ (m : Int) := by omega
  clear h3
  go_enter Tryz.func41, Tryz.ntmps41
  go_wp2
  go_ret
  exact ⟨ret_b HG.out.symm, rfl⟩
theorem Good_q (c : UInt8) (b : Bool) (w : World) (h : good c = b) : Calls Tryz.prog 41 #[.int .u8 c.toNat] w fun e w' => e = .returned (.bool b) ∧ w = w' := by
 subst h; exact Good_any c w
end
section
open Go.RowKit Go.Sort
open Q6
theorem step_append_own {P : Program} {ops : Array Oper} {o : Oper} {a : Act} {w : World} {K : Act → World → Prop} {Q : Exit → Act → World → Prop} {E : Prop} (hg : o.guard = none) (s x : Operand) (t : TypeId)
  (ho : o.op = .call { callee := .builtin .append, args := #[s, x], argTypes := #[t, t] })
  (base : Nat) (e : TypeId) (i : TypeInfo) (z : Value) (size bytes : Nat) (ht : P.underlying t = some (.slice e)) (hi : P.info? e = some i) (hz : i.zero = some z)
  (hsize : i.size = size) (hby : i.bytes = bytes) (hzs : z.cells.size = size) (hsz : 0 < size)
  (v : Value) (n : Nat) (xs : List Value) (hs : a.eval s = v) (hown : w.ownsRow base e size v n xs)
  (ad : Addr) (m c : Nat) (news : List Value) (hx : a.eval x = .slice (some ad) m c) (hl : news.length = m * size) (hnews : ∀ j u, news[j]? = some u → w.cell? (ad.add j) = some u) (h1 : ∀ u ∈ news, u.oneCell' = true)
  (h63 : n + m ≤ maxLen) (hbytes : (n + m) * bytes ≤ 140737488355328) (hbase : base ≤ w.heap.size)
  (h : ∀ v' w', w'.ownsRow base e size v' (n + m) (xs ++ news) → w.grownBy w' v.ownBlock → (v' = .slice none 0 0 ↔ v = .slice none 0 0 ∧ m = 0) → K (a.put o.dst v') w') :
  if Region.wanted o (yielded ops a.tmps) = true then Oper.wp P o a w K Q else E := by
 rw [if_pos (by simp [Region.wanted, hg])]
 exact wp_append_own w s x t ho base e i z size bytes ht hi hz hsize hby hzs hsz v n xs hs hown ad m c news hx hl hnews h1 h63 hbytes hbase h
end
end Go.Proofs.YtgdejjkiiaodkaaGreatDoor
