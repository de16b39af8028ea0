/- The contract of digit.Text. -/
import Derived.Test.YtkgfinhepbipeaaDoorDigPut
import Derived.Laws.BytesArg
namespace Go.Proofs.YtkgfinhepbipeaaDoor
open Go.RowKit
open Dg
set_option linter.unusedVariables false

theorem dgw_len (wd n : Nat) (k : Nat) (h : n < 10 ^ k) (hk : wd ≤ k) : (dgw wd n).length ≤ k := by
  induction k generalizing wd n with
  | zero =>
    obtain rfl : wd = 0 := by omega
    obtain rfl : n = 0 := by simpa using h
    rw [dgw_stop]; simp
  | succ k ih =>
    by_cases hs : n = 0 ∧ wd = 0
    · obtain ⟨rfl, rfl⟩ := hs; rw [dgw_stop]; simp
    · rw [dgw_step hs, List.length_append]
      have := ih (wd - 1) (n / 10) (by rw [Nat.pow_succ] at h; omega) (by omega)
      simp; omega

def textL (n : Int) : List UInt8 := if n < 0 then 45 :: dgw 1 n.natAbs else dgw 1 n.natAbs

theorem holds_new (w : World) (ty : TypeId) : Sort.Holds encB (w.alloc (.cells #[.int .u8 0, .int .u8 0, .int .u8 0, .int .u8 0, .int .u8 0, .int .u8 0, .int .u8 0, .int .u8 0, .int .u8 0, .int .u8 0, .int .u8 0, .int .u8 0, .int .u8 0, .int .u8 0, .int .u8 0, .int .u8 0, .int .u8 0, .int .u8 0, .int .u8 0, .int .u8 0] ty)) w.heap.size 0 (Array.replicate 20 0) := by
  intro j hj
  have hj' : j < 20 := by simpa using hj
  rw [Nat.zero_add]
  constructor
  · rw [World.cell?_alloc_at _ _ _ _ rfl]
    show (Array.replicate 20 (Value.int .u8 0))[j]? = _
    rw [Array.getElem?_replicate, if_pos hj', getElem!_pos _ j hj, Array.getElem_replicate]
    rfl
  · exact World.frozen?_alloc_at _ _ _ _ rfl
theorem new20_any (w w1 : World) (h0 : Sort.Holds encB w1 w.heap.size 0 (Array.replicate 20 0)) (hb : Below w.heap.size w w1) (m : Nat) (hm : m < 18446744073709551616) (hl : (dgw 1 m).length ≤ 20) :
    Calls Tryd.prog 42 #[.pointer (some ⟨w.heap.size, 0, none⟩), .int .i64 20, .int .i64 1, .int .u64 m] w1 fun e w' => ∃ a : Nat, e = .returned (.int .i64 a) ∧ a + (dgw 1 m).length = 20 ∧ Laid w1 w' w.heap.size 20 a (Array.replicate 20 0) (dgw 1 m) :=
  put_any w.heap.size 20 1 m (Array.replicate 20 0) w1 h0 (by simp) (by omega) (by omega) hm hl
theorem Below.laid {w w1 w' : World} {b en a : Nat} {d : Array UInt8} {l : List UInt8} (h : Laid w1 w' b en a d l) (hb : Below b w w1) : Below b w w' := by
  obtain ⟨d', _, _, rfl⟩ := h.ex
  refine ⟨hb.os, hb.tape, hb.output, by rw [Sort.size_putRow]; exact hb.size, fun k hk => ?_⟩
  rw [← hb.block k hk]
  unfold Sort.putRow Sort.mapBlock
  simp only [Array.getElem?_modify]
  rw [if_neg (by omega)]
theorem Laid.read {w w' : World} {b a : Nat} {d : Array UInt8} {l : List UInt8} (h : Laid w w' b d.size a d l) (h0 : Sort.Holds encB w b 0 d) (ha : a + l.length = d.size) (i : Nat) (hi : i < l.length) :
    w'.cell? ⟨b, a + i, none⟩ = some (.int .u8 (l[i]'hi).toNat) := by
  obtain ⟨d', hs, hd, rfl⟩ := h.ex
  have := (Sort.holds_putRow encB w b 0 d d' h0 hs (a + i) (by omega)).1
  rw [Nat.zero_add] at this
  rw [this]
  have e : d'[a + i]! = l[i]'hi := by
    rw [getElem!_pos d' (a + i) (by omega)]
    have h1 : d'.toList[a + i]? = some (l[i]'hi) := by
      rw [← List.getElem?_drop, hd]
      have : d.toList.drop d.size = [] := by simp
      rw [this, List.append_nil, List.getElem?_eq_getElem hi]
    rw [Array.getElem?_toList, Array.getElem?_eq_getElem (by omega)] at h1
    exact Option.some.inj h1
  rw [e]; rfl
theorem neg_wrap (m : Nat) (h0 : 0 < m) (h : m < 18446744073709551616) : IntKind.u64.wrap (-IntKind.u64.wrap (-(m : Int))) = (m : Int) := by
  simp [IntKind.wrap, IntKind.signed, IntKind.bits]; omega
theorem enc_45 : encB 45 = .int .u8 45 := rfl
theorem new20_less (w w1 : World) (h0 : Sort.Holds encB w1 w.heap.size 0 (Array.replicate 20 0)) (hb : Below w.heap.size w w1) (m : Nat) (hm : m < 18446744073709551616) (hl : (dgw 1 m).length ≤ 19) :
    Calls Tryd.prog 42 #[.pointer (some ⟨w.heap.size, 0, none⟩), .int .i64 20, .int .i64 1, .int .u64 m] w1 fun e w' => ∃ a : Nat, e = .returned (.int .i64 ((a : Int) + 1)) ∧ a + 1 + (dgw 1 m).length = 20 ∧ Laid w1 w' w.heap.size 20 (a + 1) (Array.replicate 20 0) (dgw 1 m) := by
  refine (new20_any w w1 h0 hb m hm (by omega)).mono ?_
  rintro e w' ⟨a, rfl, ha, hlaid⟩
  obtain ⟨a, rfl⟩ : ∃ a', a = a' + 1 := ⟨a - 1, by omega⟩
  exact ⟨a, by rw [Int.natCast_add]; rfl, ha, hlaid⟩
theorem ret_l {l l' : List UInt8} (h : l' = l) : Ending.returned (.string ⟨l.toArray⟩) = .returned (.string ⟨l'.toArray⟩) := by rw [h]
theorem dgw_one_pos (m : Nat) : 0 < (dgw 1 m).length := by
  rw [dgw_step (by omega), List.length_append]; simp
theorem nums_of (l : List UInt8) : strOfNums (l.map fun c => (c.toNat : Int)) = ⟨l.toArray⟩ := by
  unfold strOfNums
  congr 2
  rw [List.map_map]
  conv => rhs; rw [← List.map_id l]
  apply List.map_congr_left
  intro c _
  simp
theorem conv_read {w' : World} {b a len cap : Nat} {l : List UInt8} (hcell : ∀ i (hi : i < l.length), w'.cell? ⟨b, a + i, none⟩ = some (.int .u8 (l[i]'hi).toNat)) (hlen : l.length = len) :
    (convert 55 9 (.slice (some ⟨b, a, none⟩) len cap)).run Tryd.prog w' = .ok (.string ⟨l.toArray⟩) w' := by
  have h := run_convert_bytes_arg (P := Tryd.prog) w' 55 5 Tryd.underlying55 Tryd.underlying5 b a len cap (l.map fun c => (c.toNat : Int)) (by simpa using hlen) (fun i hi => by
    rw [hcell i (by omega)]
    simp [List.getD, List.getElem?_eq_getElem (show i < l.length by omega)]) 9 Tryd.underlying9
  rw [h, nums_of]

set_option maxHeartbeats 1000000 in
theorem Text_any (n : Int) (w : World) (h1 : -9223372036854775808 ≤ n) (h2 : n ≤ 9223372036854775807) :
    Calls Tryd.prog 24 #[.int .i64 n] w fun e w' => e = .returned (.string ⟨(textL n).toArray⟩) ∧ Below w.heap.size w w' := by
  by_cases hneg : n < 0
  · obtain ⟨m, rfl⟩ : ∃ m : Nat, n = -(m : Int) := ⟨n.natAbs, by omega⟩
    have hl := dgw_len 1 m 19 (by omega) (by omega)
    have HT : Hid (textL (-(m : Int)) = 45 :: dgw 1 m) := Lib.hid (by unfold textL; rw [if_pos hneg]; congr 2; omega)
    have hw : IntKind.u64.wrap (-IntKind.u64.wrap (-(m : Int))) = (m : Int) := neg_wrap m (by omega) (by omega)
    go_enter Tryd.func24, Tryd.ntmps24
    go_wp2_with (go_at_call 42; refine (new20_less w _ (holds_new w _) ((Below.refl _ _).alloc (Nat.le_refl _) _) m (by omega) hl).mono ?_; rintro e w' ⟨a, rfl, ha, hlaid⟩; (have hle : (a : Int) ≤ 20 := by omega); (have hlt : a < 20 := by omega); (have hne : ¬ (20 = a) := by omega); (obtain ⟨⟨x, hx⟩, hfz⟩ := hlaid.cells (holds_new w _) a (by simp; omega)); (have hl2 := hlaid.store 45 (by simp; omega)); (rw [enc_45] at hl2); (have hcv := conv_read (cap := 20 - a) (fun i hi => hl2.read (holds_new w _) (by simp; omega) i hi) (show (45 :: dgw 1 m).length = 20 - a by simp; omega)); (have HL := Lib.hid ha); (clear ha))
    go_ret
    refine ⟨ret_l HT.out, Below.laid hl2 ((Below.refl _ _).alloc (Nat.le_refl _) _)⟩
  · obtain ⟨m, rfl⟩ := Int.eq_ofNat_of_zero_le (show 0 ≤ n by omega)
    have hl := dgw_len 1 m 20 (by omega) (by omega)
    have HT : Hid (textL (m : Int) = dgw 1 m) := Lib.hid (by unfold textL; rw [if_neg hneg]; rfl)
    go_enter Tryd.func24, Tryd.ntmps24
    go_wp2_with (go_at_call 42; refine (new20_any w _ (holds_new w _) ((Below.refl _ _).alloc (Nat.le_refl _) _) m (by omega) hl).mono ?_; rintro e w' ⟨a, rfl, ha, hlaid⟩; (have hle : (a : Int) ≤ 20 := by omega); (have hne : ¬ (20 = a) := by have := dgw_one_pos m; omega); (have hcv := conv_read (cap := 20 - a) (fun i hi => hlaid.read (holds_new w _) ha i hi) (show (dgw 1 m).length = 20 - a by omega)); (have HL := Lib.hid ha); (clear ha))
    go_ret
    refine ⟨ret_l HT.out, Below.laid hlaid ((Below.refl _ _).alloc (Nat.le_refl _) _)⟩
end Go.Proofs.YtkgfinhepbipeaaDoor
