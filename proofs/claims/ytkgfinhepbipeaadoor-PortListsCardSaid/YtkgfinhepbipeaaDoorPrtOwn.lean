/- A row of ports that a call owns: stores of whole ports, what is cut; slices.Compact at ports. -/
import Derived.Test.YtkgfinhepbipeaaDoorPrtFst
import Derived.Lib.SlicesCompact
import Derived.Lib.SliceRun
import Derived.Maps.AppendAt
import Derived.Laws.OwnMore
import Derived.Deep.RegionLaw
import Derived.Laws.IdiomCopy
namespace Go.Proofs.YtkgfinhepbipeaaDoor
open Go.RowKit Go.Sort
open Nw Dg P16 Go.ChangeShapes Go.WideShapes
set_option linter.unusedVariables false
def setsL : List Value → Nat → List Value → List Value
  | xs, _, [] => xs
  | xs, o, v :: r => setsL (xs.set o v) (o + 1) r
theorem setsL_eq : ∀ (vs xs : List Value) (o : Nat), o + vs.length ≤ xs.length → setsL xs o vs = xs.take o ++ vs ++ xs.drop (o + vs.length)
  | [], xs, o, h => by simp [setsL]
  | v :: r, xs, o, h => by
    rw [List.length_cons] at h
    rw [setsL, setsL_eq r (xs.set o v) (o + 1) (by rw [List.length_set]; omega)]
    have h1 : (xs.set o v).take (o + 1) = xs.take o ++ [v] := by
      rw [List.take_succ_eq_append_getElem (by rw [List.length_set]; omega), List.getElem_set_self, List.take_set, List.set_eq_of_length_le (by rw [List.length_take]; omega)]
    have h2 : (xs.set o v).drop (o + 1 + r.length) = xs.drop (o + (r.length + 1)) := by
      rw [List.drop_set, if_pos (by omega), show o + 1 + r.length = o + (r.length + 1) by omega]
    rw [h1, h2, List.length_cons]
    simp
theorem setsL_len : ∀ (vs xs : List Value) (o : Nat), (setsL xs o vs).length = xs.length
  | [], xs, o => rfl
  | v :: r, xs, o => by rw [setsL, setsL_len r, List.length_set]
theorem owns_sets {base : Nat} {e : TypeId} {size g n cap : Nat} : ∀ (vs xs : List Value) (o : Nat) (w : World), w.ownsRow base e size (.slice (some ⟨g, 0, none⟩) n cap) n xs →
    (w.setCells g o vs).ownsRow base e size (.slice (some ⟨g, 0, none⟩) n cap) n (setsL xs o vs) ∧ w.grownBy (w.setCells g o vs) (some g)
  | [], xs, o, w, h => ⟨h, ⟨rfl, rfl, rfl, Nat.le_refl _, fun _ _ _ => rfl⟩⟩
  | v :: r, xs, o, w, h => by
    obtain ⟨h1, h2⟩ := h.stored o v
    obtain ⟨k1, k2⟩ := owns_sets r (xs.set o v) (o + 1) (w.setCell ⟨g, o, none⟩ v) h1
    exact ⟨k1, h2.trans k2⟩
theorem owns_cut {w : World} {base : Nat} {e : TypeId} {size g n cap k : Nat} {xs : List Value} (h : w.ownsRow base e size (.slice (some ⟨g, 0, none⟩) n cap) n xs) (hk : k ≤ n) : w.ownsRow base e size (.slice (some ⟨g, 0, none⟩) k cap) k (xs.take (k * size)) := by
  have hkn : k * size ≤ n * size := Nat.mul_le_mul_right _ hk
  rcases h.2 with ⟨h', _⟩ | ⟨g', cap', cur, h', hb, hg, hnc, hcm, hcs, htake⟩
  · cases h'
  · injection h' with h1 _ h2
    injection h1 with h1
    injection h1 with h1
    subst h1; subst h2
    refine ⟨by rw [List.length_take, h.1]; omega, .inr ⟨g, cap, cur, rfl, hb, hg, by omega, hcm, hcs, ?_⟩⟩
    rw [← htake, List.take_take, Nat.min_eq_left hkn]
theorem cellsP_cons (p : Po) (l : List Po) : cellsP (p :: l) = .string (ba p.host) :: .int .i64 p.out :: .int .i64 p.inn :: .string (ba p.proto) :: cellsP l := rfl
theorem cellsP_set : ∀ (l : List Po) (k : Nat) (p : Po), k < l.length → setsL (cellsP l) (k * 4) (encP p) = cellsP (l.set k p)
  | x :: l, 0, p, _ => rfl
  | x :: l, k + 1, p, h => by
    have ih := cellsP_set l k p (Nat.lt_of_succ_lt_succ h)
    rw [List.set_cons_succ, cellsP_cons, cellsP_cons, ← ih, show (k + 1) * 4 = k * 4 + 4 by omega]
    rfl
theorem cellsP_take : ∀ (l : List Po) (n : Nat), (cellsP l).take (n * 4) = cellsP (l.take n)
  | [], n => by simp [cellsP]
  | p :: l, 0 => rfl
  | p :: l, n + 1 => by
    rw [show (n + 1) * 4 = n * 4 + 4 by omega, cellsP_cons, List.take_succ_cons, List.take_succ_cons, List.take_succ_cons, List.take_succ_cons, cellsP_take l n, List.take_succ_cons, cellsP_cons]
/-- The row of ports at g. -/
def OP (base : Nat) (w : World) (g n cap : Nat) (l : List Po) : Prop := w.ownsRow base 24 4 (.slice (some ⟨g, 0, none⟩) n cap) n (cellsP l)
theorem OP.len {base g n cap : Nat} {w : World} {l : List Po} (h : OP base w g n cap l) : l.length = n := by
  have := h.1; rw [cellsP_len] at this; omega
theorem OP.lt {base g n cap : Nat} {w : World} {l : List Po} (h : OP base w g n cap l) : base ≤ g ∧ g < w.heap.size := World.ownsRow.lt h g rfl
theorem OP.at_ {base g n cap : Nat} {w : World} {l : List Po} (h : OP base w g n cap l) (k : Nat) (hk : k < l.length) : At4 w g 0 k l[k] := by
  obtain ⟨f0, f1, f2, f3⟩ := cellsP_at l k hk
  have hn := h.len
  refine ⟨?_, ?_, ?_, ?_⟩
  · rw [Nat.zero_add]; exact (World.ownsRow.cellAt h (k * 4) (by omega)).trans f0
  · rw [Nat.zero_add]; exact (World.ownsRow.cellAt h (k * 4 + 1) (by omega)).trans f1
  · rw [Nat.zero_add]; exact (World.ownsRow.cellAt h (k * 4 + 2) (by omega)).trans f2
  · rw [Nat.zero_add]; exact (World.ownsRow.cellAt h (k * 4 + 3) (by omega)).trans f3
theorem OP.frozen {base g n cap : Nat} {w : World} {l : List Po} (h : OP base w g n cap l) (k : Nat) : w.frozen? ⟨g, k, none⟩ = false := World.ownsRow.frozenAt h k
theorem OP.put {base g n cap : Nat} {w : World} {l : List Po} (h : OP base w g n cap l) (k : Nat) (hk : k < n) (p : Po) :
    OP base ((((w.setCell ⟨g, k * 4, none⟩ (.string (ba p.host))).setCell ⟨g, k * 4 + 1, none⟩ (.int .i64 p.out)).setCell ⟨g, k * 4 + 2, none⟩ (.int .i64 p.inn)).setCell ⟨g, k * 4 + 3, none⟩ (.string (ba p.proto))) g n cap (l.set k p) ∧
      w.grownBy ((((w.setCell ⟨g, k * 4, none⟩ (.string (ba p.host))).setCell ⟨g, k * 4 + 1, none⟩ (.int .i64 p.out)).setCell ⟨g, k * 4 + 2, none⟩ (.int .i64 p.inn)).setCell ⟨g, k * 4 + 3, none⟩ (.string (ba p.proto))) (some g) := by
  have h1 := owns_sets (encP p) (cellsP l) (k * 4) w h
  rw [cellsP_set l k p (by rw [h.len]; exact hk)] at h1
  exact h1
theorem OP.drew {base g n cap : Nat} {w : World} {l : List Po} (h : OP base w g n cap l) : OP base w.drew g n cap l := h
theorem OP.drewN {base g n cap q : Nat} {w : World} {l : List Po} (h : OP base w g n cap l) : OP base (w.drewN q) g n cap l := h
/-- Nothing's cells, j times. -/
def zerosP (j : Nat) : List Value := cellsP (List.replicate j ⟨[], 0, 0, []⟩)
theorem run_clearP (w : World) (ty : TypeId) (b o j c : Nat) (hj : 0 < j)
    (hc : ∀ t, t < j * 4 → (w.cell? ⟨b, o + t, none⟩).isSome = true) (hf : ∀ t, t < j * 4 → w.frozen? ⟨b, o + t, none⟩ = false) :
    (Builtin.clear_ #[31] ty #[.slice (some ⟨b, o, none⟩) j c]).run Tryd.prog w = .ok (.tuple #[]) (w.setCells b o (zerosP j)) := by
  have hzl : (zerosP j).length = j * 4 := by unfold zerosP; rw [cellsP_len, List.length_replicate]
  have hst := run_storeCells_cells (P := Tryd.prog) b o (zerosP j) 0 w (by intro t ht; rw [Nat.add_zero]; exact hc t (by omega)) (by intro t ht; rw [Nat.add_zero]; exact hf t (by omega)) (fun v hv => cellsP_one _ v hv)
  simp only [Nat.add_zero] at hst
  have hzv := Tryd.zeroValue24
  have hzc : (Builtin.zeroCells #[.string ⟨#[]⟩, .int .i64 0, .int .i64 0, .string ⟨#[]⟩] j).toList = zerosP j := by
    apply List.ext_getElem?
    intro i
    have hl0 : (Builtin.zeroCells #[.string ⟨#[]⟩, .int .i64 0, .int .i64 0, .string ⟨#[]⟩] j).toList.length = j * 4 := by simp [Builtin.zeroCells]
    rcases Nat.lt_or_ge i (j * 4) with h | h
    · have e0 : (Builtin.zeroCells #[.string ⟨#[]⟩, .int .i64 0, .int .i64 0, .string ⟨#[]⟩] j).toList[i]? = some ((#[.string ⟨#[]⟩, .int .i64 0, .int .i64 0, .string ⟨#[]⟩] : Array Value)[i % 4]!) := by
        simp [Builtin.zeroCells, h]
      rw [e0]
      obtain ⟨q, r, hr, rfl⟩ : ∃ q r, r < 4 ∧ i = q * 4 + r := ⟨i / 4, i % 4, Nat.mod_lt _ (by decide), by omega⟩
      obtain ⟨f0, f1, f2, f3⟩ := cellsP_at (List.replicate j ⟨[], 0, 0, []⟩) q (by rw [List.length_replicate]; omega)
      rw [List.getElem_replicate] at f0 f1 f2 f3
      have em : (q * 4 + r) % 4 = r := by omega
      rw [em]
      unfold zerosP
      match r, hr with
      | 0, _ => exact f0.symm
      | 1, _ => exact f1.symm
      | 2, _ => exact f2.symm
      | 3, _ => exact f3.symm
    · rw [List.getElem?_eq_none (by rw [hl0]; exact h), List.getElem?_eq_none (by rw [hzl]; exact h)]
  obtain ⟨m, rfl⟩ : ∃ m, j = m + 1 := ⟨j - 1, by omega⟩
  simp [Builtin.clear_, run_underlying Tryd.underlying31, hzv, Value.cells, hzc, hst]
theorem beq_po (a b : Po) : (((ba a.host).toList == (ba b.host).toList) && ((a.out == b.out) && ((a.inn == b.inn) && ((ba a.proto).toList == (ba b.proto).toList)))) = decide (a = b) := by
  rw [ByteArray.toList_eq, ByteArray.toList_eq, ByteArray.toList_eq, ByteArray.toList_eq, ba_data, ba_data, ba_data, ba_data]
  obtain ⟨h1, o1, i1, p1⟩ := a
  obtain ⟨h2, o2, i2, p2⟩ := b
  rw [Bool.eq_iff_iff]
  simp
theorem eq_port (h pr h2 pr2 : ByteArray) (o i o2 i2 : Int) (w : World) :
    (Op.equalIn 10000 24 (.agg #[.string h, .int .i64 o, .int .i64 i, .string pr]) (.agg #[.string h2, .int .i64 o2, .int .i64 i2, .string pr2])).run Tryd.prog w = .ok ((h.toList == h2.toList) && ((o == o2) && ((i == i2) && (pr.toList == pr2.toList)))) w := by
  have u3 := Tryd.underlying3
  have u9 := Tryd.underlying9
  have a3 := Tryd.isAgg3
  have z3 := Tryd.sizeOf3
  have a9 := Tryd.isAgg9
  have z9 := Tryd.sizeOf9
  have hS : Tryd.prog.underlying 24 = some (.struct (Tryd.prog.fieldsOf 24)) := by kernel_rfl
  have hp : Tryd.prog.stoodInHeld 24 = false := by kernel_rfl
  rw [show (10000 : Nat) = 9999 + 1 from rfl, run_equalIn_agg w 9999 24 _ _ hS hp]
  simp only [Program.fieldsOf, Tryd.underlying24]
  go_simp
  by_cases e1 : h.toList = h2.toList <;> by_cases e2 : o = o2 <;> by_cases e3 : i = i2 <;> by_cases e4 : pr.toList = pr2.toList <;> simp [e1, e2, e3, e4]
theorem eq_val (x y : Po) (w : World) :
    (Op.equalIn 10000 24 (.agg #[.string (ba x.host), .int .i64 x.out, .int .i64 x.inn, .string (ba x.proto)]) (.agg #[.string (ba y.host), .int .i64 y.out, .int .i64 y.inn, .string (ba y.proto)])).run Tryd.prog w = .ok (decide (x = y)) w := by
  rw [eq_port, beq_po]
set_option maxRecDepth 100000 in
set_option maxHeartbeats 8000000 in
theorem CompactP_any (base g n cap : Nat) (d : Array Po) (w : World) (h : OP base w g n cap d.toList) (hl : n ≤ 100000) (h1 : n ≤ cap) (h2 : cap ≤ maxLen) :
    Calls Tryd.prog 33 #[.slice (some ⟨g, 0, none⟩) n cap] w fun e w' => e = .returned (.slice (some ⟨g, 0, none⟩) (Lib.compactUpTo d n).length cap) ∧ OP base w' g (Lib.compactUpTo d n).length cap (Lib.compactUpTo d n) ∧ w.grownBy w' (some g) := by
  have hds : d.size = n := by rw [← h.len]; simp
  have hsame : (∀ j, j < n → Lib.keeps d j = true) → Lib.compactUpTo d n = d.toList := fun hall => by
    rw [Lib.compactUpTo_all d n hall, ← hds, Lib.range_map_get]
  have HS := Lib.hid hsame
  have HD := Lib.hid hds
  have HO := Lib.hid h
  unfold maxLen at h2
  clear hsame hds h
  have HG0 : Hid (∀ q, w.grownBy (w.drewN q) (some g)) := Lib.hid (fun q => ⟨rfl, rfl, rfl, Nat.le_refl _, fun _ _ _ => rfl⟩)
  by_cases hlt : n < 2
  · have hz : (n : Int) < 2 := by omega
    go_enter Tryd.func33, Tryd.ntmps33
    go_wp2
    go_ret
    have e1 := HS.out (fun j hj => Lib.keeps_lt_one d j (by omega))
    rw [e1]
    have e2 : d.toList.length = n := by simp [HD.out]
    exact ⟨by rw [e2]; rfl, by rw [e2]; exact HO.out, HG0.out 0⟩
  · have hz : ¬ (n : Int) < 2 := by omega
    go_enter Tryd.func33, Tryd.ntmps33
    go_wp2
    go_loopg [3] n (fun gg s3 wr => ∃ k q : Nat, 1 ≤ k ∧ k ≤ n ∧ n - k ≤ gg ∧ s3 = .int .i64 k ∧ wr = w.drewN q ∧ Hid (∀ j, j < k → Lib.keeps d j = true))
    case atStart => exact ⟨1, 0, Nat.le_refl _, by omega, by omega, rfl, rfl, Lib.hid (Lib.keeps_lt_one d)⟩
    case round =>
      obtain ⟨k, q, hk1, hk, hgg, rfl, rfl, HA⟩ := hrel
      by_cases hkn : k < n
      · have hkz : (k : Int) < (n : Int) := by omega
        have hk0 : (0 : Int) ≤ (k : Int) - 1 := by omega
        have hk2 : (k : Int) - 1 < (n : Int) := by omega
        have hk3 : ((k : Int) - 1).toNat = k - 1 := by omega
        have kw : IntKind.i64.wrap ((k : Int) - 1) = (k : Int) - 1 := IntWalk.i64_in _ (by omega)
        have hkd : Hid (k < d.toList.length) := Lib.hid (by simp [HD.out]; omega)
        have hkd1 : Hid (k - 1 < d.toList.length) := Lib.hid (by simp [HD.out]; omega)
        have a1 := HO.out.at_ k hkd.out
        have a0 := HO.out.at_ (k - 1) hkd1.out
        obtain ⟨x, hx⟩ : ∃ x, d.toList[k]'hkd.out = x := ⟨_, rfl⟩
        obtain ⟨y, hy⟩ : ∃ y, d.toList[k - 1]'hkd1.out = y := ⟨_, rfl⟩
        rw [hx] at a1
        rw [hy] at a0
        obtain ⟨c0, c1, c2, c3⟩ := a1
        obtain ⟨b0, b1, b2, b3⟩ := a0
        rw [Nat.zero_add] at c0 c1 c2 c3 b0 b1 b2 b3
        have hk4 : (1 : Int) ≤ (k : Int) := by omega
        have HEQ : ∀ W, (Op.equalIn 10000 24 (.agg #[.string (ba x.host), .int .i64 x.out, .int .i64 x.inn, .string (ba x.proto)]) (.agg #[.string (ba y.host), .int .i64 y.out, .int .i64 y.inn, .string (ba y.proto)])).run Tryd.prog W = .ok (decide (x = y)) W := fun W => eq_val x y W
        obtain ⟨B, hB⟩ : ∃ B, decide (x = y) = B := ⟨_, rfl⟩
        rw [hB] at HEQ
        cases hBc : B with
        | true =>
          subst hBc
          have HXY : Hid (x = y) := Lib.hid (of_decide_eq_true hB)
          have HKP : Hid (Lib.keeps d k = false) := Lib.hid (Lib.keeps_neg (by omega) (by
            rw [getElem!_pos d k (by rw [HD.out]; omega), getElem!_pos d (k - 1) (by rw [HD.out]; omega)]
            have e1 : d[k]'(by rw [HD.out]; omega) = x := by rw [← hx]; simp
            have e2 : d[k - 1]'(by rw [HD.out]; omega) = y := by rw [← hy]; simp
            rw [e1, e2]; exact HXY.out))
          have HCI := Lib.hid (Lib.CompInv.start HA.out HKP.out)
          have hcapk : ¬ cap = k := by omega
          go_wp2_with fail
          go_region
          go_wp2
          clear c0 c1 c2 c3 b0 b1 b2 b3 HEQ hB hx hy
          go_loopg [3, 5] n (fun gg s3 s5 wr => ∃ (kk k2 : Nat) (dk : Array Po), s3 = .int .i64 (kk : Int) ∧ s5 = .int .i64 (k2 : Int) ∧ 1 ≤ k2 ∧ k + k2 ≤ n ∧ n - (k + k2) ≤ gg ∧ Hid (OP base wr g n cap dk.toList) ∧ Hid (w.grownBy wr (some g)) ∧ Hid (Lib.CompInv d (k + k2) kk dk))
          case atStart => exact ⟨k, 1, d, rfl, rfl, Nat.le_refl _, by omega, by omega, Lib.hid HO.out.drewN, Lib.hid (HG0.out _), HCI⟩
          case round =>
            obtain ⟨kk, k2, dk, rfl, rfl, h11, hle, hg2, HO2, HG2, HI⟩ := hrel
            have hkk := HI.out.lt
            have hdl : Hid (dk.toList.length = n) := Lib.hid HO2.out.len
            by_cases hlt2 : k + k2 < n
            · have q1 : Hid (k + k2 < dk.toList.length) := Lib.hid (by rw [hdl.out]; exact hlt2)
              have q2 : Hid (k + k2 - 1 < dk.toList.length) := Lib.hid (by rw [hdl.out]; omega)
              have q3 : Hid (kk < dk.toList.length) := Lib.hid (by rw [hdl.out]; omega)
              have a1 := HO2.out.at_ (k + k2) q1.out
              have a0 := HO2.out.at_ (k + k2 - 1) q2.out
              have a2 := HO2.out.at_ kk q3.out
              obtain ⟨u, hu⟩ : ∃ u, dk.toList[k + k2]'q1.out = u := ⟨_, rfl⟩
              obtain ⟨v, hv⟩ : ∃ v, dk.toList[k + k2 - 1]'q2.out = v := ⟨_, rfl⟩
              obtain ⟨z, hz2⟩ : ∃ z, dk.toList[kk]'q3.out = z := ⟨_, rfl⟩
              rw [hu] at a1
              rw [hv] at a0
              rw [hz2] at a2
              have hu2 : Hid (d[k + k2]! = u) := Lib.hid (by
                rw [← HI.out.high (k + k2) (by omega), ← hu, getElem!_pos dk (k + k2) q1.out]; simp)
              have hv2 : Hid (d[k + k2 - 1]! = v) := Lib.hid (by
                rw [← HI.out.high (k + k2 - 1) (by omega), ← hv, getElem!_pos dk (k + k2 - 1) q2.out]; simp)
              clear hu hv hz2
              unfold At4 at a0 a1 a2
              rw [Nat.zero_add, show (k + k2) * 4 = k * 4 + k2 * 4 by omega] at a1
              rw [Nat.zero_add, show (k + k2 - 1) * 4 = k * 4 + (k2 - 1) * 4 by omega] at a0
              rw [Nat.zero_add] at a2
              obtain ⟨c0, c1, c2, c3⟩ := a1
              obtain ⟨b0, b1, b2, b3⟩ := a0
              obtain ⟨e0, e1, e2, e3⟩ := a2
              have f0 := HO2.out.frozen (kk * 4)
              have f1 := HO2.out.frozen (kk * 4 + 1)
              have f2 := HO2.out.frozen (kk * 4 + 2)
              have f3 := HO2.out.frozen (kk * 4 + 3)
              have HEQ2 : ∀ W, (Op.equalIn 10000 24 (.agg #[.string (ba u.host), .int .i64 u.out, .int .i64 u.inn, .string (ba u.proto)]) (.agg #[.string (ba v.host), .int .i64 v.out, .int .i64 v.inn, .string (ba v.proto)])).run Tryd.prog W = .ok (decide (u = v)) W := fun W => eq_val u v W
              obtain ⟨C, hC⟩ : ∃ C, decide (u = v) = C := ⟨_, rfl⟩
              rw [hC] at HEQ2
              have hk20 : (0 : Int) ≤ (k2 : Int) - 1 := by omega
              have hk22 : (k2 : Int) - 1 < (n : Int) - (k : Int) := by omega
              have hk23 : ((k2 : Int) - 1).toNat = k2 - 1 := by omega
              have hk24 : (1 : Int) ≤ (k2 : Int) := by omega
              have hk25 : (k2 : Int) < (n : Int) - (k : Int) := by omega
              have hk26 : k2 < n - k := by omega
              have hk27 : k2 - 1 < n - k := by omega
              have hk28 : (kk : Int) < (n : Int) := by omega
              have kw2 : IntKind.i64.wrap ((k2 : Int) - 1) = (k2 : Int) - 1 := IntWalk.i64_in _ (by omega)
              have kw3 : IntKind.i64.wrap ((k2 : Int) + 1) = (k2 : Int) + 1 := IntWalk.i64_in _ (by omega)
              have kw4 : IntKind.i64.wrap ((kk : Int) + 1) = (kk : Int) + 1 := IntWalk.i64_in _ (by omega)
              cases hCc : C with
              | true =>
                subst hCc
                have HKP2 : Hid (Lib.keeps d (k + k2) = false) := Lib.hid (Lib.keeps_neg (by omega) (by rw [hu2.out, hv2.out]; exact of_decide_eq_true hC))
                clear hC
                go_wp2_with fail
                go_region
                go_wp2
                go_roundg (n - (k + (k2 + 1)))
                case measure => omega
                case rel => exact ⟨kk, k2 + 1, dk, rfl, by go_num, by omega, by omega, Nat.le_refl _, Lib.hid HO2.out.drewN, Lib.hid (HG2.out.trans ⟨rfl, rfl, rfl, Nat.le_refl _, fun _ _ _ => rfl⟩), Lib.hid (HI.out.skip HKP2.out)⟩
              | false =>
                subst hCc
                have HKP2 : Hid (Lib.keeps d (k + k2) = true) := Lib.hid (Lib.keeps_pos (by rw [hu2.out, hv2.out]; exact of_decide_eq_false hC))
                have HPUT := Lib.hid (OP.put HO2.out kk (by omega) u)
                clear hC
                go_wp2_with fail
                go_region
                go_wp2
                go_roundg (n - (k + (k2 + 1)))
                case measure => omega
                case rel =>
                  have hci := HI.out.keep (by rw [HD.out]; omega) HKP2.out
                  rw [hu2.out] at hci
                  exact ⟨kk + 1, k2 + 1, dk.setIfInBounds kk u, by go_num, by go_num, by omega, by omega, Nat.le_refl _, Lib.hid (by rw [Array.toList_setIfInBounds]; exact HPUT.out.1.drew), Lib.hid ((HG2.out.trans HPUT.out.2).trans ⟨rfl, rfl, rfl, Nat.le_refl _, fun _ _ _ => rfl⟩), Lib.hid hci⟩
            · have hend : k + k2 = n := by omega
              have hcl : ∀ ty c, (Builtin.clear_ #[31] ty #[.slice (some ⟨g, kk * 4, none⟩) (n - kk) c]).run Tryd.prog wr = .ok (.tuple #[]) (wr.setCells g (kk * 4) (zerosP (n - kk))) := fun ty c => by
                refine run_clearP wr ty g _ _ c (by omega) (fun t ht => ?_) fun t ht => HO2.out.frozen _
                rw [World.ownsRow.cellAt HO2.out (kk * 4 + t) (by omega), List.getElem?_eq_getElem (by rw [cellsP_len, hdl.out]; omega)]
                rfl
              have hck : ¬ cap = kk := by omega
              have hkkz : (kk : Int) ≤ (n : Int) := by omega
              have hkkc : (kk : Int) ≤ (cap : Int) := by omega
              have HHI := Lib.hid hend
              clear hend
              go_wp2
              go_ret
              obtain ⟨r1, r2⟩ := owns_sets (zerosP (n - kk)) _ (kk * 4) wr HO2.out
              have r3 := owns_cut (k := kk) r1 (by omega)
              have hci := HI.out
              rw [HHI.out] at hci
              have hlen : (Lib.compactUpTo d n).length = kk := by have := hci.len; exact this
              have htk : dk.toList.take kk = Lib.compactUpTo d n := by
                apply List.ext_getElem?
                intro j
                rcases Nat.lt_or_ge j kk with hj | hj
                · have hlow := hci.low j hj
                  rw [hlow, List.getElem?_take_of_lt hj, List.getElem?_eq_getElem (by rw [hdl.out]; omega), getElem!_pos dk j (by have := hdl.out; simp at this; omega)]
                  simp
                · rw [List.getElem?_eq_none (by rw [List.length_take]; omega), List.getElem?_eq_none (by rw [hlen]; exact hj)]
              have hz1 : (zerosP (n - kk)).length = (n - kk) * 4 := by unfold zerosP; rw [cellsP_len, List.length_replicate]
              have hcc : (setsL (cellsP dk.toList) (kk * 4) (zerosP (n - kk))).take (kk * 4) = cellsP (Lib.compactUpTo d n) := by
                rw [setsL_eq _ _ _ (by rw [hz1, cellsP_len, hdl.out]; omega), List.append_assoc, List.take_append_of_le_length (by rw [List.length_take, cellsP_len, hdl.out]; omega), List.take_take, Nat.min_self, cellsP_take, htk]
              rw [hcc] at r3
              rw [hlen]
              exact ⟨rfl, r3, HG2.out.trans r2⟩
        | false =>
          subst hBc
          have HKP : Hid (Lib.keeps d k = true) := Lib.hid (Lib.keeps_pos (by
            rw [getElem!_pos d k (by rw [HD.out]; omega), getElem!_pos d (k - 1) (by rw [HD.out]; omega)]
            have e1 : d[k]'(by rw [HD.out]; omega) = x := by rw [← hx]; simp
            have e2 : d[k - 1]'(by rw [HD.out]; omega) = y := by rw [← hy]; simp
            rw [e1, e2]; exact of_decide_eq_false hB))
          clear hB hx hy
          go_wp2_with fail
          go_region
          go_wp2
          go_roundg (n - (k + 1))
          case measure => omega
          case rel =>
            refine ⟨k + 1, q + 1, by omega, by omega, Nat.le_refl _, by go_num, rfl, Lib.hid fun j hj => ?_⟩
            by_cases e : j = k
            · subst e; exact HKP.out
            · exact HA.out j (by omega)
      · obtain rfl : k = n := by omega
        have e1 := HS.out HA.out
        have e2 : d.toList.length = k := by simp [HD.out]
        have HE : Hid ((Lib.compactUpTo d k).length = k ∧ OP base (w.drewN q) g (Lib.compactUpTo d k).length cap (Lib.compactUpTo d k)) := Lib.hid (by rw [e1, e2]; exact ⟨rfl, HO.out.drewN⟩)
        clear e1 e2
        go_wp2
        go_ret
        exact ⟨by rw [HE.out.1]; rfl, HE.out.2, HG0.out _⟩
end Go.Proofs.YtkgfinhepbipeaaDoor
