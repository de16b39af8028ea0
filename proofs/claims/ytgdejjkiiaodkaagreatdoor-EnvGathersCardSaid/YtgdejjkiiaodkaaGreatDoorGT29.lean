/- EnvApp -/
import Derived.Laws.AppendOwnNone
import Derived.Test.YtgdejjkiiaodkaaGreatDoorGT23
import Derived.Test.YtgdejjkiiaodkaaGreatDoorGT9
set_option linter.unusedVariables false
set_option linter.unusedSimpArgs false
set_option maxRecDepth 100000
set_option maxHeartbeats 16000000
namespace Go.Proofs.YtgdejjkiiaodkaaGreatDoor
section
open Go.RowKit Go.Sort
open Nw V12 Q6
def GivesV (m : List KV) (w : World) (e : Ending) (w' : World) : Prop := ∃ v, e = .returned v ∧ VR w' v m ∧ Below w.heap.size w w'
def small100 (l : List KV) : Prop := l.length ≤ 100 ∧ ∀ p ∈ l, p.1.length ≤ 100 ∧ p.2.length ≤ 100
theorem fewV_small {l : List KV} {n : Int} (h : fewV l n) (hn : n ≤ 100) : small100 l := ⟨by have := h.1; omega, h.2⟩
theorem small_ok {l : List KV} (h : small100 l) : KVok l := fun p hp => by have := h.2 p hp; unfold maxLen; omega
theorem gath_small {l : List KV} (h : small100 l) : small100 (gath l) := ⟨Nat.le_trans (gath_len l) h.1, fun p hp => by
 unfold gath at hp
 obtain ⟨k, hk, rfl⟩ := List.mem_map.1 hp
 obtain ⟨hv, q, hq, e⟩ := mem_keys.1 hk
 obtain ⟨v, h1, h2⟩ := last_some ⟨q, hq, e⟩
 have := h.2 _ h2
 exact ⟨this.1, by show ((lastV l k).getD []).length ≤ 100; rw [h1]; exact this.2⟩⟩
theorem of_small {l : List KV} (h : small100 l) : small100 (ofV l) :=
 ⟨Nat.le_trans (of_len l).1 (by omega), fun p hp => (gath_small h).2 p (List.mem_of_mem_take hp)⟩
theorem small_kvk {l : List KV} (h : small100 l) : KVk l := (small_ok h).k
theorem small_app {x y : List KV} (h : small100 x) (h2 : small100 y) : KVk (x ++ y) := fun p hp => by
 rcases List.mem_append.1 hp with hp | hp
 ·exact small_kvk h p hp
 ·exact small_kvk h2 p hp
theorem wpList_append_vr {w : World} {ops : Array Oper} {rest : List Oper} {o : Oper} {a : Act} {Q : Exit → Act → World → Prop} (hgd : o.guard = none) (s x : Operand)
  (ho : o.op = .call { callee := .builtin .append, args := #[s, x], argTypes := #[22, 22] })
  (base : Nat) (v : Value) (n : Nat) (xs : List Value) (hs : a.eval s = v) (hown : w.ownsRow base 38 2 v n xs) (u : Value) (m : List KV) (hx : a.eval x = u) (hu : VR w u m)
  (hn : n + m.length ≤ 1000000) (hbase : base ≤ w.heap.size)
  (h : ∀ v' w', w'.ownsRow base 38 2 v' (n + m.length) (xs ++ cellsV m) → Below base w w' → wpList Tryz.prog ops Q rest (a.put o.dst v') w') : wpList Tryz.prog ops Q (o :: rest) a w := by
 obtain ⟨i3, hi3, hy0, hy1, hy2⟩ := infoV
 obtain ⟨ad, cap, rfl, h1, h2, h3⟩ := hu
 cases ad with
 | none =>
  have hm : m = [] ∧ cap = 0 := by
   rcases h3 with ⟨e, h4⟩ | ⟨_, _, e, _⟩
   ·exact ⟨e, h4 rfl⟩
   ·cases e
  obtain ⟨rfl, rfl⟩ := hm
  refine wpList_append_own_none hgd s x 22 ho base 38 i3 2 Tryz.underlying22 hi3 v n xs hs hown hx ?_
  refine h v w ?_ (Below.refl _ _)
  have e : cellsV ([] : List KV) = [] := rfl
  rw [e, List.append_nil]
  exact hown
 | some ad =>
  refine wpList_append_own w hgd s x 22 ho base 38 i3 _ 2 32 Tryz.underlying22 hi3 hy0 hy1 hy2 rfl (by decide) v n xs hs hown ad m.length cap (cellsV m) hx (cellsV_len m) ?_ ?_ (by unfold maxLen; omega) (by omega) hbase ?_
  ·intro j q hj
   rcases h3 with ⟨rfl, _⟩ | ⟨b, of, e, _, h5⟩
   ·cases hj
   ·cases e
    have hjl : j < m.length * 2 := by
     rw [← cellsV_len]
     exact (List.getElem?_eq_some_iff.1 hj).1
    obtain ⟨c1, c2⟩ := cellsV_at m (j / 2) (by omega)
    obtain ⟨d1, d2⟩ := h5 (j / 2) (by omega)
    rw [Go.WideShapes.add_plain]
    rcases Nat.mod_two_eq_zero_or_one j with hj2 | hj2
    ·have e : j = j / 2 * 2 := by omega
     rw [← e] at c1 d1
     rw [hj] at c1
     rw [d1, c1]
    ·have e : j = j / 2 * 2 + 1 := by omega
     rw [← e] at c2
     rw [hj] at c2
     rw [Nat.add_assoc, ← e] at d2
     rw [d2, c2]
  ·intro q hq
   unfold cellsV at hq
   obtain ⟨c, hc, hq⟩ := List.mem_flatten.1 hq
   obtain ⟨p, hp, rfl⟩ := List.mem_map.1 hc
   exact twoV_one p q hq
  ·intro v' w' ho' hg _
   exact h v' w' ho' ((Below.refl _ _).grown hg hbase fun q hq => (hown.lt q hq).1)
end
end Go.Proofs.YtgdejjkiiaodkaaGreatDoor
