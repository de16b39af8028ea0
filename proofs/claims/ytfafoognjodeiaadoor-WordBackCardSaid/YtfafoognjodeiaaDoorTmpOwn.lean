/- Slices of bytes of the call's own: what is appended, and their text. -/
import Derived.Test.YtfafoognjodeiaaDoorNamRd
import Derived.Laws.BytesArg
import Derived.Deep.RegionLaw
import Derived.Lib.OwnBridge
import Derived.Sort.OwnSorted
import Derived.Deep.LoopGhost
import Derived.Laws.AppendOwnNone
import Derived.Maps.AppendAt
import Derived.WalkSpells
import Derived.RegionTactic
import Derived.ChangeAlike
import Derived.OwnWalk
import Derived.Below
namespace Go.Proofs.YtfafoognjodeiaaDoor
open Go.RowKit Go.Sort
open Nw
set_option linter.unusedVariables false
def encB (c : UInt8) : Value := .int .u8 (c.toNat : Int)
theorem infoB0 : (Tryd.prog.info? 5).map (fun i => (i.zero, i.size, i.bytes)) = some (some (.int .u8 0), 1, 1) := by kernel_rfl
theorem infoB : ∃ i, Tryd.prog.info? 5 = some i ∧ i.zero = some (.int .u8 0) ∧ i.size = 1 ∧ i.bytes = 1 := by
  have h := infoB0
  cases hi : Tryd.prog.info? 5 with
  | none => rw [hi] at h; cases h
  | some i =>
    rw [hi] at h
    simp only [Option.map_some, Option.some.injEq, Prod.mk.injEq] at h
    exact ⟨i, rfl, h.1, h.2.1, h.2.2⟩
theorem nums_of (l : List UInt8) : strOfNums (l.map fun c => (c.toNat : Int)) = ⟨l.toArray⟩ := by
  unfold strOfNums
  congr 2
  rw [List.map_map]
  conv => rhs; rw [← List.map_id l]
  apply List.map_congr_left
  intro c _
  simp
theorem conv_read {w' : World} {b len cap : Nat} {l : List UInt8} (hcell : ∀ i (hi : i < l.length), w'.cell? ⟨b, i, none⟩ = some (encB l[i])) (hlen : l.length = len) :
    (convert 48 9 (.slice (some ⟨b, 0, none⟩) len cap)).run Tryd.prog w' = .ok (.string ⟨l.toArray⟩) w' := by
  have h := run_convert_bytes_arg (P := Tryd.prog) w' 48 5 Tryd.underlying48 Tryd.underlying5 b 0 len cap (l.map fun c => (c.toNat : Int)) (by simpa using hlen) (fun i hi => by
    rw [Nat.zero_add, hcell i (by omega)]
    simp [List.getD, List.getElem?_eq_getElem (show i < l.length by omega), encB]) 9 Tryd.underlying9
  subst hlen
  rw [h, nums_of]
theorem own_conv {wr : World} {base n : Nat} {v : Value} {l : List UInt8} (h : wr.ownsRow base 5 1 v n (l.map encB)) (hv : v ≠ .slice none 0 0) :
    ∃ g cap, v = .slice (some ⟨g, 0, none⟩) n cap ∧ (convert 48 9 (.slice (some ⟨g, 0, none⟩) n cap)).run Tryd.prog wr = .ok (.string ⟨l.toArray⟩) wr := by
  obtain ⟨g, cap, rfl, _, hg, h1, h2, hl, hH⟩ := Lib.holds_of_ownsRow h hv
  refine ⟨g, cap, rfl, conv_read (fun i hi => ?_) hl⟩
  have := (hH i (by simpa using hi)).1
  rw [getElem!_pos l.toArray i (by simpa using hi), Nat.zero_add] at this
  simpa using this
theorem conv_nil (w : World) : (convert 48 9 (.slice none 0 0)).run Tryd.prog w = .ok (.string ⟨#[]⟩) w :=
  run_convert_bytes_nil (P := Tryd.prog) w 48 5 Tryd.underlying48 Tryd.underlying5 0 0 9 Tryd.underlying9
theorem own_none {wr : World} {base n : Nat} {l : List UInt8} (h : wr.ownsRow base 5 1 (.slice none 0 0) n (l.map encB)) : n = 0 ∧ l = [] := by
  rcases h.2 with ⟨_, h0⟩ | ⟨g, cap, cur, h0, _⟩
  · refine ⟨h0, ?_⟩
    have hl : (l.map encB).length = n * 1 := h.1
    rw [List.length_map] at hl
    exact List.length_eq_zero_iff.1 (by omega)
  · cases h0
theorem own_cases {wr : World} {base n : Nat} {v : Value} {l : List UInt8} (h : wr.ownsRow base 5 1 v n (l.map encB)) :
    (v = .slice none 0 0 ∧ l = []) ∨ ∃ g cap, v = .slice (some ⟨g, 0, none⟩) n cap ∧ (convert 48 9 (.slice (some ⟨g, 0, none⟩) n cap)).run Tryd.prog wr = .ok (.string ⟨l.toArray⟩) wr := by
  by_cases hv : v = .slice none 0 0
  · subst hv; exact .inl ⟨rfl, (own_none h).2⟩
  · exact .inr (own_conv h hv)
theorem own_len {wr : World} {base n : Nat} {v : Value} {l : List UInt8} (h : wr.ownsRow base 5 1 v n (l.map encB)) : l.length = n := by
  have hl : (l.map encB).length = n * 1 := h.1
  rw [List.length_map] at hl
  omega
theorem row_new (w : World) (o : Obj) : (w.alloc o).heap[w.heap.size]? = some o := by
  show (w.heap.push o)[w.heap.size]? = some o
  simp
theorem cells_new (w : World) (c : Array Value) (t : TypeId) : ∀ j u, c.toList[j]? = some u → (w.alloc (.cells c t)).cell? ((⟨w.heap.size, 0, none⟩ : Addr).add j) = some u := by
  intro j u h
  have hadd : (⟨w.heap.size, 0, none⟩ : Addr).add j = ⟨w.heap.size, j, none⟩ := by unfold Addr.add; split <;> simp_all
  rw [hadd, cell_of_row _ _ j c t (0, 0) (row_new w _)]
  simpa using h
theorem one_one (a : Int) : ∀ u ∈ [Value.int .u8 a], u.oneCell' = true := by
  intro u hu
  simp at hu
  subst hu; rfl
theorem two_one (a b : Int) : ∀ u ∈ [Value.int .u8 a, Value.int .u8 b], u.oneCell' = true := by
  intro u hu
  simp at hu
  rcases hu with rfl | rfl <;> rfl
theorem four_one (a b c d : Int) : ∀ u ∈ [Value.int .u8 a, Value.int .u8 b, Value.int .u8 c, Value.int .u8 d], u.oneCell' = true := by
  intro u hu
  simp at hu
  rcases hu with rfl | rfl | rfl | rfl <;> rfl
theorem owns_drew {w : World} {base n size : Nat} {e : TypeId} {v : Value} {xs : List Value} (h : w.ownsRow base e size v n xs) : w.drew.ownsRow base e size v n xs := h
theorem owns_drewN {w : World} {base n size : Nat} {e : TypeId} {v : Value} {xs : List Value} (h : w.ownsRow base e size v n xs) (q : Nat) : (w.drewN q).ownsRow base e size v n xs := h
theorem owns_nil (w : World) (base : Nat) (e : TypeId) : w.ownsRow base e 1 (.slice none 0 0) 0 [] := ⟨rfl, .inl ⟨rfl, rfl⟩⟩
theorem belowD (w : World) (q : Nat) : Below w.heap.size w (w.drewN q) := ⟨rfl, rfl, rfl, Nat.le_refl _, fun _ _ => rfl⟩
theorem Below.dr {w w2 : World} {b : Nat} (h : Below b w w2) (hb : b ≤ w2.heap.size) (n : Nat) : Below b w (w2.drewN n) := h.trans ((belowD w2 n).mono hb)
theorem ret_sii {a b : ByteArray} {m n e f : Int} (h : a = b) (g : m = n) (k : e = f) : Ending.returned (.tuple #[.string a, .int .i64 m, .int .i64 e]) = .returned (.tuple #[.string b, .int .i64 n, .int .i64 f]) := by rw [h, g, k]
theorem bytes_ext {a b : ByteArray} (h : a.data.toList = b.data.toList) : a = b := by
  cases a; cases b; simp at h; simp [h]
theorem data_app (a b : ByteArray) : (a ++ b).data.toList = a.data.toList ++ b.data.toList := by
  rw [ByteArray.data_append]; simp
theorem mk_of {l : List UInt8} {a : ByteArray} (h : l = a.data.toList) : (⟨l.toArray⟩ : ByteArray) = a := bytes_ext (by simp [h])
theorem map_snoc (l : List UInt8) (c : UInt8) : (l ++ [c]).map encB = l.map encB ++ [.int .u8 (c.toNat : Int)] := by simp [encB]
end Go.Proofs.YtfafoognjodeiaaDoor
