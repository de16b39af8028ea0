/- cmp.Compare at strings, cmp.Or, compare: the order of ports. -/
import Derived.Test.YtkgfinhepbipeaaDoorPrtOwn
import Derived.Laws.Cover1
import Derived.Deep.RegionHeld3
namespace Go.Proofs.YtkgfinhepbipeaaDoor
open Go.RowKit Go.Sort
open Nw Dg P16
set_option linter.unusedVariables false
def cmpS (x y : L8) : Int := if x < y then -1 else if y < x then 1 else 0
/-- The first that is not 0. -/
def orL : List Int → Int
  | [] => 0
  | v :: r => if v = 0 then orL r else v
def cmpP (a b : Po) : Int := orL [Lib.compareInt a.inn b.inn, cmpS a.proto b.proto, cmpS a.host b.host, Lib.compareInt a.out b.out]
theorem cmpI_zero {x y : Int} : Lib.compareInt x y = 0 ↔ x = y := by
  unfold Lib.compareInt
  split
  · omega
  · split <;> omega
theorem cmpI_neg {x y : Int} : Lib.compareInt x y < 0 ↔ x < y := by
  unfold Lib.compareInt
  split
  · omega
  · split <;> omega
theorem cmpS_zero {x y : L8} : cmpS x y = 0 ↔ x = y := by
  unfold cmpS
  constructor
  · intro h
    split at h
    · cases h
    · split at h
      · cases h
      · rename_i h1 h2
        exact List.le_antisymm (le_of_nlt h2) (le_of_nlt h1)
  · rintro rfl
    rw [if_neg (lt_irr _), if_neg (lt_irr _)]
theorem cmpS_neg {x y : L8} : cmpS x y < 0 ↔ x < y := by
  unfold cmpS
  constructor
  · intro h
    split at h
    · assumption
    · split at h <;> omega
  · intro h
    rw [if_pos h]; decide
theorem cmpP_less (a b : Po) : ltOf cmpP a b = lessP a b := by
  unfold ltOf cmpP lessP orL
  by_cases h1 : a.inn = b.inn
  · rw [if_pos (cmpI_zero.2 h1), if_neg (fun k => k h1)]
    unfold orL
    by_cases h2 : a.proto = b.proto
    · rw [if_pos (cmpS_zero.2 h2), if_neg (fun k => k h2)]
      unfold orL
      by_cases h3 : a.host = b.host
      · rw [if_pos (cmpS_zero.2 h3), if_neg (fun k => k h3)]
        unfold orL
        by_cases h4 : a.out = b.out
        · rw [if_pos (cmpI_zero.2 h4)]
          unfold orL
          rw [decide_eq_false (by omega), decide_eq_false (by omega)]
        · rw [if_neg (fun k => h4 (cmpI_zero.1 k))]
          exact decide_eq_decide.2 cmpI_neg
      · rw [if_neg (fun k => h3 (cmpS_zero.1 k)), if_pos h3]
        exact decide_eq_decide.2 cmpS_neg
    · rw [if_neg (fun k => h2 (cmpS_zero.1 k)), if_pos h2]
      exact decide_eq_decide.2 cmpS_neg
  · rw [if_neg (fun k => h1 (cmpI_zero.1 k)), if_pos h1]
    exact decide_eq_decide.2 cmpI_neg
theorem isNaN_str (x : ByteArray) (w : World) : Calls Tryd.prog 66 #[.string x] w fun e w' => e = .returned (.bool false) ∧ w' = w := by
  have e1 : (x.toList == x.toList) = true := beq_self_eq_true _
  have e2 : (x.toList != x.toList) = false := by rw [bne, e1]; rfl
  go_enter Tryd.func66, Tryd.ntmps66
  go_wp2
  go_ret
  exact ⟨rfl, rfl⟩
set_option maxHeartbeats 2000000 in
theorem cmpStr_any (x y : ByteArray) (w : World) : Calls Tryd.prog 48 #[.string x, .string y] w fun e w' => e = .returned (.int .i64 (cmpS x.data.toList y.data.toList)) ∧ w' = w := by
  have HN := Lib.hid (fun (s : ByteArray) (w0 : World) => isNaN_str s w0)
  have ev : ∀ a b : ByteArray, Op.bytesLess a.toList b.toList = decide (a.data.toList < b.data.toList) := fun a b => by rw [bytesLess_eq, ByteArray.toList_eq, ByteArray.toList_eq]
  by_cases h1 : x.data.toList < y.data.toList
  · have HE : Hid (cmpS x.data.toList y.data.toList = -1) := Lib.hid (if_pos h1)
    have e1 : Op.bytesLess x.toList y.toList = true := by rw [ev, decide_eq_true h1]
    rw [HE.out]
    clear ev h1 HE
    go_enter Tryd.func48, Tryd.ntmps48
    go_wp2_with (go_at_call 66; refine (HN.out _ _).mono ?_; rintro e w' ⟨rfl, rfl⟩)
    go_ret
    exact ⟨rfl, rfl⟩
  · have e1 : Op.bytesLess x.toList y.toList = false := by rw [ev, decide_eq_false h1]
    by_cases h2 : y.data.toList < x.data.toList
    · have HE : Hid (cmpS x.data.toList y.data.toList = 1) := Lib.hid (by unfold cmpS; rw [if_neg h1, if_pos h2])
      have e2 : Op.bytesLess y.toList x.toList = true := by rw [ev, decide_eq_true h2]
      have e3 : (x.toList == y.toList) = false := by rw [ByteArray.toList_eq, ByteArray.toList_eq]; exact beq_eq_false_iff_ne.2 fun e => lt_irr _ (by rw [e] at h2; exact h2)
      rw [HE.out]
      clear ev h1 h2 HE
      go_enter Tryd.func48, Tryd.ntmps48
      go_wp2_with (go_at_call 66; refine (HN.out _ _).mono ?_; rintro e w' ⟨rfl, rfl⟩)
      go_ret
      exact ⟨rfl, rfl⟩
    · have HE : Hid (cmpS x.data.toList y.data.toList = 0) := Lib.hid (by unfold cmpS; rw [if_neg h1, if_neg h2])
      have e2 : Op.bytesLess y.toList x.toList = false := by rw [ev, decide_eq_false h2]
      have e3 : (x.toList == y.toList) = true := by rw [ByteArray.toList_eq, ByteArray.toList_eq]; exact beq_iff_eq.2 (List.le_antisymm (le_of_nlt h2) (le_of_nlt h1))
      rw [HE.out]
      clear ev h1 h2 HE
      go_enter Tryd.func48, Tryd.ntmps48
      go_wp2_with (go_at_call 66; refine (HN.out _ _).mono ?_; rintro e w' ⟨rfl, rfl⟩)
      go_ret
      exact ⟨rfl, rfl⟩
set_option maxHeartbeats 2000000 in
theorem or_any (B : Nat) (vs : List Int) (n : Nat) (hn : vs.length = n) (hs : n ≤ 1000) (w : World) (hc : ∀ j (h : j < vs.length), w.cell? ⟨B, j, none⟩ = some (.int .i64 vs[j])) :
    Calls Tryd.prog 46 #[.slice (some ⟨B, 0, none⟩) n n] w fun e w' => e = .returned (.int .i64 (orL vs)) ∧ w' = w := by
  obtain ⟨R, hR⟩ : ∃ R, orL vs = R := ⟨_, rfl⟩
  have HR : Hid (orL (vs.drop 0) = R) := Lib.hid hR
  have HC := Lib.hid hc
  have HN := Lib.hid hn
  rw [hR]
  clear hR hc hn
  go_enter Tryd.func46, Tryd.ntmps46
  go_wp2
  go_loopw [5, 8] (fun s5 s8 wr => ∃ k : Nat, k ≤ n ∧ s8 = .int .i64 (k : Int) ∧ wr = w ∧ Hid (orL (vs.drop k) = R)) (fun _ s8 _ => n - (intOf s8).toNat)
  case atStart => exact ⟨0, Nat.zero_le _, rfl, rfl, HR⟩
  case round =>
    obtain ⟨k, hk, rfl, rfl, HK⟩ := hrel
    by_cases hlt : k < n
    · have hkl : Hid (k < vs.length) := Lib.hid (by rw [HN.out]; exact hlt)
      have hkz : (k : Int) < (n : Int) := by omega
      have kw : IntKind.i64.wrap ((k : Int) + 1) = (k : Int) + 1 := IntWalk.i64_in _ (by omega)
      have hc := HC.out k hkl.out
      obtain ⟨v, hv⟩ : ∃ v, vs[k]'hkl.out = v := ⟨_, rfl⟩
      rw [hv] at hc
      have HV := Lib.hid hv
      clear hv
      by_cases h0 : v = 0
      · have HK2 : Hid (orL (vs.drop (k + 1)) = R) := Lib.hid (by
          rw [← HK.out, List.drop_eq_getElem_cons hkl.out, HV.out, orL, if_pos h0])
        have e1 : (v == 0) = true := beq_iff_eq.2 h0
        have e2 : (v != 0) = false := by rw [bne, e1]; rfl
        clear h0
        go_wp2
        go_roundw
        case rel => exact ⟨k + 1, by omega, by go_num, trivial, HK2⟩
        case measure => simp [intOf]; omega
      · have HE : Hid (v = R) := Lib.hid (by
          rw [← HK.out, List.drop_eq_getElem_cons hkl.out, HV.out, orL, if_neg h0])
        have e1 : (v == 0) = false := beq_eq_false_iff_ne.2 h0
        have e2 : (v != 0) = true := bne_iff_ne.2 h0
        go_wp2
        go_ret
        exact ⟨by rw [← HE.out]; rfl, rfl⟩
    · obtain rfl : k = n := by omega
      have HE : Hid ((0 : Int) = R) := Lib.hid (by
        have := HK.out
        rw [List.drop_of_length_le (by rw [HN.out]; exact Nat.le_refl _)] at this
        exact this)
      go_wp2
      go_ret
      exact ⟨by rw [← HE.out]; rfl, rfl⟩
set_option maxRecDepth 100000 in
set_option maxHeartbeats 8000000 in
theorem compare_any (p q : Po) (w : World) :
    Calls Tryd.prog 32 #[.agg #[.string (ba p.host), .int .i64 p.out, .int .i64 p.inn, .string (ba p.proto)], .agg #[.string (ba q.host), .int .i64 q.out, .int .i64 q.inn, .string (ba q.proto)]] w fun e w' => e = .returned (.int .i64 (cmpP p q)) ∧ ∃ n os, w' = grow (w.drewN n) os := by
  obtain ⟨a, ha⟩ : ∃ a, ba p.host = a := ⟨_, rfl⟩
  obtain ⟨b, hb⟩ : ∃ b, ba p.proto = b := ⟨_, rfl⟩
  obtain ⟨c, hc⟩ : ∃ c, ba q.host = c := ⟨_, rfl⟩
  obtain ⟨d, hd⟩ : ∃ d, ba q.proto = d := ⟨_, rfl⟩
  obtain ⟨o, ho⟩ : ∃ o, p.out = o := ⟨_, rfl⟩
  obtain ⟨i, hi⟩ : ∃ i, p.inn = i := ⟨_, rfl⟩
  obtain ⟨o2, ho2⟩ : ∃ o, q.out = o := ⟨_, rfl⟩
  obtain ⟨i2, hi2⟩ : ∃ i, q.inn = i := ⟨_, rfl⟩
  have HR : cmpP p q = orL [Lib.compareInt i i2, cmpS b.data.toList d.data.toList, cmpS a.data.toList c.data.toList, Lib.compareInt o o2] := by
    unfold cmpP
    rw [← ha, ← hb, ← hc, ← hd, ← ho, ← hi, ← ho2, ← hi2, ba_data, ba_data, ba_data, ba_data]
  rw [HR, ha, hb, hc, hd, ho, hi, ho2, hi2]
  clear HR ha hb hc hd ho hi ho2 hi2
  obtain ⟨CI, hCI⟩ : ∃ CI : Int → Int → Int, CI = Lib.compareInt := ⟨_, rfl⟩
  obtain ⟨CS, hCS⟩ : ∃ CS : ByteArray → ByteArray → Int, CS = fun x y => cmpS x.data.toList y.data.toList := ⟨_, rfl⟩
  have HI : Hid (∀ x y w0, Calls Tryd.prog 47 #[.int .i64 x, .int .i64 y] w0 fun e w' => e = .returned (.int .i64 (CI x y)) ∧ w' = w0) := Lib.hid (fun x y w0 => by rw [hCI]; exact Tryd.cmp_Compare_int x y w0)
  have HS : Hid (∀ x y w0, Calls Tryd.prog 48 #[.string x, .string y] w0 fun e w' => e = .returned (.int .i64 (CS x y)) ∧ w' = w0) := Lib.hid (fun x y w0 => by rw [hCS]; exact cmpStr_any x y w0)
  have HO : Hid (∀ B v0 v1 v2 v3 w0, w0.cell? ⟨B, 0, none⟩ = some (.int .i64 v0) → w0.cell? ⟨B, 1, none⟩ = some (.int .i64 v1) → w0.cell? ⟨B, 2, none⟩ = some (.int .i64 v2) → w0.cell? ⟨B, 3, none⟩ = some (.int .i64 v3) →
      Calls Tryd.prog 46 #[.slice (some ⟨B, 0, none⟩) 4 4] w0 fun e w' => e = .returned (.int .i64 (orL [v0, v1, v2, v3])) ∧ w' = w0) := Lib.hid (fun B v0 v1 v2 v3 w0 g0 g1 g2 g3 => by
    refine or_any B [v0, v1, v2, v3] 4 rfl (by decide) w0 (fun j hj => ?_)
    match j, hj with
    | 0, _ => exact g0
    | 1, _ => exact g1
    | 2, _ => exact g2
    | 3, _ => exact g3)
  have HR : Hid (orL [Lib.compareInt i i2, cmpS b.data.toList d.data.toList, cmpS a.data.toList c.data.toList, Lib.compareInt o o2] = orL [CI i i2, CS b d, CS a c, CI o o2]) := Lib.hid (by rw [hCI, hCS])
  rw [HR.out]
  clear HR hCI hCS
  go_enter Tryd.func32, Tryd.ntmps32
  go_upto_region 1 with fail
  obtain ⟨W2, hW2⟩ : ∃ W, (w.alloc (.cells #[.string a, .int .i64 o, .int .i64 i, .string b] 24)).alloc (.cells #[.string c, .int .i64 o2, .int .i64 i2, .string d] 24) = W := ⟨_, rfl⟩
  have hS : W2.cell? ⟨w.heap.size, 0, none⟩ = some (.string a) ∧ W2.cell? ⟨w.heap.size, 1, none⟩ = some (.int .i64 o) ∧ W2.cell? ⟨w.heap.size, 2, none⟩ = some (.int .i64 i) ∧ W2.cell? ⟨w.heap.size, 3, none⟩ = some (.string b) ∧
      W2.cell? ⟨w.heap.size + 1, 0, none⟩ = some (.string c) ∧ W2.cell? ⟨w.heap.size + 1, 1, none⟩ = some (.int .i64 o2) ∧ W2.cell? ⟨w.heap.size + 1, 2, none⟩ = some (.int .i64 i2) ∧ W2.cell? ⟨w.heap.size + 1, 3, none⟩ = some (.string d) ∧ w.heap.size + 1 < W2.heap.size := by
    rw [← hW2]
    refine ⟨?_, ?_, ?_, ?_, ?_, ?_, ?_, ?_, ?_⟩ <;> simp
  have HG : Hid (W2 = grow w #[.cells #[.string a, .int .i64 o, .int .i64 i, .string b] 24, .cells #[.string c, .int .i64 o2, .int .i64 i2, .string d] 24]) := Lib.hid (by
    rw [← hW2, alloc_eq_grow, alloc_eq_grow, grow_grow]; rfl)
  rw [hW2]
  clear hW2
  have hK2 : ∀ ob, ((W2.alloc ob).drew.cell? ⟨w.heap.size, 0, none⟩ = some (.string a) ∧ (W2.alloc ob).drew.cell? ⟨w.heap.size, 1, none⟩ = some (.int .i64 o) ∧ (W2.alloc ob).drew.cell? ⟨w.heap.size, 2, none⟩ = some (.int .i64 i) ∧ (W2.alloc ob).drew.cell? ⟨w.heap.size, 3, none⟩ = some (.string b) ∧
      (W2.alloc ob).drew.cell? ⟨w.heap.size + 1, 0, none⟩ = some (.string c) ∧ (W2.alloc ob).drew.cell? ⟨w.heap.size + 1, 1, none⟩ = some (.int .i64 o2) ∧ (W2.alloc ob).drew.cell? ⟨w.heap.size + 1, 2, none⟩ = some (.int .i64 i2) ∧ (W2.alloc ob).drew.cell? ⟨w.heap.size + 1, 3, none⟩ = some (.string d) ∧ w.heap.size + 1 < (W2.alloc ob).drew.heap.size)      := fun ob => by
    obtain ⟨g0, g1, g2, g3, g4, g5, g6, g7, g8⟩ := hS
    exact ⟨Lib.cell?_alloc_some _ g0, Lib.cell?_alloc_some _ g1, Lib.cell?_alloc_some _ g2, Lib.cell?_alloc_some _ g3, Lib.cell?_alloc_some _ g4, Lib.cell?_alloc_some _ g5, Lib.cell?_alloc_some _ g6, Lib.cell?_alloc_some _ g7, Nat.lt_of_lt_of_le g8 (by show W2.heap.size ≤ (W2.alloc ob).heap.size; simp)⟩
  go_region_held3 (fun W => W.cell? ⟨w.heap.size, 0, none⟩ = some (.string a) ∧ W.cell? ⟨w.heap.size, 1, none⟩ = some (.int .i64 o) ∧ W.cell? ⟨w.heap.size, 2, none⟩ = some (.int .i64 i) ∧ W.cell? ⟨w.heap.size, 3, none⟩ = some (.string b) ∧
      W.cell? ⟨w.heap.size + 1, 0, none⟩ = some (.string c) ∧ W.cell? ⟨w.heap.size + 1, 1, none⟩ = some (.int .i64 o2) ∧ W.cell? ⟨w.heap.size + 1, 2, none⟩ = some (.int .i64 i2) ∧ W.cell? ⟨w.heap.size + 1, 3, none⟩ = some (.string d) ∧ w.heap.size + 1 < W.heap.size) (first | exact hS | assumption | exact hK2 _)
    (first
      | (go_at_call 47; refine (HI.out _ _ _).mono ?_; rintro e w' ⟨rfl, rfl⟩)
      | (go_at_call 48; refine (HS.out _ _ _).mono ?_; rintro e w' ⟨rfl, rfl⟩)
      | (go_at_call 46; refine (HO.out _ (CI i i2) (CS b d) (CS a c) (CI o o2) _ (by simp) (by simp) (by simp) (by simp)).mono ?_; rintro e w' ⟨rfl, rfl⟩))
  go_wp2
  go_ret
  refine ⟨rfl, 1, #[.cells #[.string a, .int .i64 o, .int .i64 i, .string b] 24, .cells #[.string c, .int .i64 o2, .int .i64 i2, .string d] 24, .cells #[.int .i64 (CI i i2), .int .i64 (CS b d), .int .i64 (CS a c), .int .i64 (CI o o2)] 3], ?_⟩
  rw [HG.out, alloc_eq_grow, grow_grow]
  rfl
end Go.Proofs.YtkgfinhepbipeaaDoor
