/- RefEnv3, RefDbl, RefEnv5, RefEnv6, RefEnv8 -/
import Derived.Lib.TrimByte
import Derived.Test.YtgdejjkiiaodkaaGreatDoorOT10
import Derived.Test.YtgdejjkiiaodkaaGreatDoorOT11
import Derived.Test.YtgdejjkiiaodkaaGreatDoorOT17
import Derived.Test.YtgdejjkiiaodkaaGreatDoorOT19
import Derived.Test.YtgdejjkiiaodkaaGreatDoorOT20
import Derived.Test.YtgdejjkiiaodkaaGreatDoorOT21
import Derived.Test.YtgdejjkiiaodkaaGreatDoorOT4
import Derived.Test.YtgdejjkiiaodkaaGreatDoorOT9
set_option linter.unusedVariables false
set_option linter.unusedSimpArgs false
set_option maxRecDepth 100000
set_option maxHeartbeats 16000000
namespace Go.Proofs.YtgdejjkiiaodkaaGreatDoor
section
open Go.RowKit Go.Sort
open Nw V12
theorem ownsV_below {w w' : World} {base n size : Nat} {e : TypeId} {v : Value} {xs : List Value} (h : w.ownsRow base e size v n xs) (hb : Below w.heap.size w w') : w'.ownsRow base e size v n xs := by
 refine ⟨h.1, ?_⟩
 rcases h.2 with h0 | ⟨g, cap, cur, h1, h2, h3, h4⟩
 ·exact .inl h0
 ·refine .inr ⟨g, cap, cur, h1, h2, (hb.block g ?_).trans h3, h4⟩
  rcases Nat.lt_or_ge g w.heap.size with hl | hl
  ·exact hl
  ·rw [Array.getElem?_eq_none hl] at h3; cases h3
def KVk (l : List KV) : Prop := ∀ p ∈ l, p.1.length ≤ maxLen
theorem KVok.k {l : List KV} (h : KVok l) : KVk l := fun p hp => (h p hp).1
theorem gath_at {l : List KV} {k : Nat} (h : k < (keysV l).length) (h2 : k < (gath l).length) : (gath l)[k]'h2 = ((keysV l)[k]'h, (lastV l ((keysV l)[k]'h)).getD []) := by
 simp only [gath, List.getElem_map]
theorem gath_size (l : List KV) : (gath l).length = (keysV l).length := by unfold gath; rw [List.length_map]
theorem cellsV_step {l : List KV} {k : Nat} (h : k < (keysV l).length) : cellsV ((gath l).take (k + 1)) = cellsV ((gath l).take k) ++ [.string (ba ((keysV l)[k]'h)), .string (gotV l ((keysV l)[k]'h))] := by
 have h2 : k < (gath l).length := by rw [gath_size]; exact h
 rw [List.take_succ_eq_append_getElem h2, cellsV_snoc, gath_at h h2]
 rfl
end
section
open Go.RowKit Go.Sort
open Q6
theorem step_append_own {P : Program} {ops : Array Oper} {o : Oper} {a : Act} {w : World} {K : Act → World → Prop} {Q : Exit → Act → World → Prop} {E : Prop} (hg : o.guard = none) (s x : Operand) (t : TypeId)
  (ho : o.op = .call { callee := .builtin .append, args := #[s, x], argTypes := #[t, t] })
  (base : Nat) (e : TypeId) (i : TypeInfo) (z : Value) (size bytes : Nat) (ht : P.underlying t = some (.slice e)) (hi : P.info? e = some i) (hz : i.zero = some z)
  (hsize : i.size = size) (hby : i.bytes = bytes) (hzs : z.cells.size = size) (hsz : 0 < size)
  (v : Value) (n : Nat) (xs : List Value) (hs : a.eval s = v) (hown : w.ownsRow base e size v n xs)
  (ad : Addr) (m c : Nat) (news : List Value) (hx : a.eval x = .slice (some ad) m c) (hl : news.length = m * size) (hnews : ∀ j u, news[j]? = some u → w.cell? (ad.add j) = some u) (h1 : ∀ u ∈ news, u.oneCell' = true)
  (h63 : n + m ≤ maxLen) (hbytes : (n + m) * bytes ≤ 140737488355328) (hbase : base ≤ w.heap.size)
  (h : ∀ v' w', w'.ownsRow base e size v' (n + m) (xs ++ news) → w.grownBy w' v.ownBlock → (v' = .slice none 0 0 ↔ v = .slice none 0 0 ∧ m = 0) → K (a.put o.dst v') w') :
  if Region.wanted o (yielded ops a.tmps) = true then Oper.wp P o a w K Q else E := by
 rw [if_pos (by simp [Region.wanted, hg])]
 exact wp_append_own w s x t ho base e i z size bytes ht hi hz hsize hby hzs hsz v n xs hs hown ad m c news hx hl hnews h1 h63 hbytes hbase h
end
section
open Go.RowKit Go.Sort
open Nw V12 Q6
theorem from12 (s : ByteArray) (k : Nat) : (s.extract k s.size).data.toList = s.data.toList.drop k := by rw [Lib.extract_from]
end
section
open Go.RowKit Go.Sort
open Nw V12 Q6
theorem toList_arr {l : L8} : (⟨l.toArray⟩ : ByteArray).data.toList = l := by simp
end
section
open Go.RowKit Go.Sort
open Nw V12 Q6
theorem trim_len (l : L8) : (trimS l).length ≤ l.length := by
 unfold trimS dropE dropB
 rw [List.length_reverse]
 refine Nat.le_trans (List.Sublist.length_le (List.dropWhile_sublist _)) ?_
 rw [List.length_reverse]
 exact List.Sublist.length_le (List.dropWhile_sublist _)
theorem bcell12 {W w1 : World} (hb : Below W.heap.size W w1) : (∀ b o, b < W.heap.size → w1.cell? ⟨b, o, none⟩ = W.cell? ⟨b, o, none⟩) ∧ (∀ b o, b < W.heap.size → w1.frozen? ⟨b, o, none⟩ = W.frozen? ⟨b, o, none⟩) :=
 ⟨fun b o h => hb.cell (p := ⟨b, o, none⟩) h, fun b o h => hb.frozen (p := ⟨b, o, none⟩) h⟩
end
end Go.Proofs.YtgdejjkiiaodkaaGreatDoor
