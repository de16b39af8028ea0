/- The reference's First and Same. -/
import Derived.Test.YtkgfinhepbipeaaDoorPrtFst
import Derived.Test.YtkgfinhepbipeaaDoorPrtOwn
import Derived.Test.YtkgfinhepbipeaaDoorRefPrt8
import Derived.Deep.RegionHeld3
namespace Go.Proofs.YtkgfinhepbipeaaDoor
open Go.RowKit Go.Sort
open Nw Dg P16
set_option linter.unusedVariables false
theorem rclash_val (p q : Po) (w : World) : Calls Tryd.prog 19 #[.agg #[.string (ba p.host), .int .i64 p.out, .int .i64 p.inn, .string (ba p.proto)], .agg #[.string (ba q.host), .int .i64 q.out, .int .i64 q.inn, .string (ba q.proto)]] w fun e w' => e = .returned (.bool (clashB p q)) ∧ Below w.heap.size w w' := by
  have h := RClash16_any (ba p.host) (ba p.proto) (ba q.host) (ba q.proto) p.out p.inn q.out q.inn w
  rw [ba_data, ba_data, ba_data, ba_data] at h
  exact h
theorem firstP_at {l : List Po} {k m : Nat} (hm : m < l.length) (hk : k < m) (hq : clashB (l[k]'(by omega)) l[m] = true) (hn : ∀ j (h1 : k < j) (h2 : j < m), clashB (l[k]'(by omega)) (l[j]'(by omega)) = false) : firstP k (l.drop k) = ((k : Int), (m : Int), true) := by
  have hf : (l.drop (k + 1)).findIdx? (clashB (l[k]'(by omega))) = some (m - (k + 1)) := find_hit (by rw [List.length_drop]; omega) (by
      rw [List.getElem_drop]
      have e : k + 1 + (m - (k + 1)) = m := by omega
      simp only [e]; exact hq) (fun j hj => by
      rw [List.getElem_drop]
      exact hn (k + 1 + j) (by omega) (by omega))
  rw [List.drop_eq_getElem_cons (show k < l.length by omega), firstP, hf]
  dsimp only
  have : (k : Int) + 1 + ((m - (k + 1) : Nat) : Int) = (m : Int) := by omega
  rw [this]
theorem firstP_none {l : List Po} {k : Nat} (hk : k < l.length) (hn : ∀ j (h1 : k < j) (h2 : j < l.length), clashB (l[k]'hk) l[j] = false) : firstP k (l.drop k) = firstP (k + 1) (l.drop (k + 1)) := by
  have hf : (l.drop (k + 1)).findIdx? (clashB (l[k]'hk)) = none := find_miss (fun j hj => by
      rw [List.length_drop] at hj
      rw [List.getElem_drop]
      exact hn (k + 1 + j) (by omega) (by omega))
  rw [List.drop_eq_getElem_cons hk, firstP, hf]
set_option maxRecDepth 100000 in
set_option maxHeartbeats 8000000 in
theorem RFirst_any (v : Value) (l : List Po) (w : World) (h : PR w v l) (hl : l.length ≤ 100000) :
    Calls Tryd.prog 14 #[v] w fun e w' => e = .returned (.tuple #[.int .i64 (firstP 0 l).1, .int .i64 (firstP 0 l).2.1, .bool (firstP 0 l).2.2]) ∧ Below w.heap.size w w' := by
  obtain ⟨a, cap, rfl, h1, h2, h3⟩ := h
  obtain ⟨R, hR⟩ : ∃ R, firstP 0 l = R := ⟨_, rfl⟩
  have HR : Hid (firstP 0 (l.drop 0) = R) := Lib.hid hR
  rw [hR]
  have H3 := Lib.hid h3
  obtain ⟨n, hn⟩ : ∃ n, l.length = n := ⟨_, rfl⟩
  have HN := Lib.hid hn
  rw [hn] at h1 hl ⊢
  unfold maxLen at h2
  clear h3 hR hn
  go_enter Tryd.func14, Tryd.ntmps14
  go_wp2
  go_loopw [5, 6] (fun s5 s6 wr => ∃ k : Nat, k ≤ n ∧ s5 = .int .i64 (k : Int) ∧ Hid (Below w.heap.size w wr) ∧ Hid (firstP k (l.drop k) = R)) (fun si _ _ => n - (intOf si).toNat)
  case atStart => exact ⟨0, Nat.zero_le _, rfl, Lib.hid (Below.refl _ _), HR⟩
  case round =>
    obtain ⟨k, hk, rfl, HB, HK⟩ := hrel
    by_cases hlt : k < n
    · have hkl : Hid (k < l.length) := Lib.hid (by rw [HN.out]; exact hlt)
      have hkz : (k : Int) < (n : Int) := by omega
      have kw : IntKind.i64.wrap ((k : Int) + 1) = (k : Int) + 1 := IntWalk.i64_in _ (by omega)
      rcases H3.out with ⟨h0, _⟩ | ⟨b, o, rfl, hb, hat⟩
      · exact absurd hkl.out (by rw [h0]; exact Nat.not_lt_zero _)
      have HAT : Hid (∀ W, Below w.heap.size w W → ∀ j (h : j < l.length), At4 W b o j l[j]) := Lib.hid (fun W hW j hj => (hat j hj).below hb hW)
      have HBB := Lib.hid hb
      clear hat hb
      obtain ⟨p, hp⟩ : ∃ p, l[k]'hkl.out = p := ⟨_, rfl⟩
      have HP := Lib.hid hp
      clear hp
      obtain ⟨w0, hw0⟩ : ∃ w0, w0 = wr := ⟨_, rfl⟩
      subst hw0
      go_wp2
      go_loopw [6] (fun s6 wr => ∃ m : Nat, k + 1 ≤ m ∧ m ≤ n ∧ s6 = .int .i64 (m : Int) ∧ Hid (Below w.heap.size w wr) ∧ Hid (∀ j (h1 : k < j) (h2 : j < m) (h3 : j < l.length), clashB p l[j] = false)) (fun s6 _ => n - (intOf s6).toNat)
      case atStart => exact ⟨k + 1, Nat.le_refl _, by omega, by go_num, HB, Lib.hid (fun j h1 h2 _ => by omega)⟩
      case round =>
        obtain ⟨m, hm1, hm2, rfl, HB2, HM⟩ := hrel
        by_cases hmn : m < n
        · have hml : Hid (m < l.length) := Lib.hid (by rw [HN.out]; exact hmn)
          have hmz : (m : Int) < (n : Int) := by omega
          have kw2 : IntKind.i64.wrap ((m : Int) + 1) = (m : Int) + 1 := IntWalk.i64_in _ (by omega)
          obtain ⟨q, hq⟩ : ∃ q, l[m]'hml.out = q := ⟨_, rfl⟩
          have HQ := Lib.hid hq
          clear hq
          have a1 := HAT.out wr HB2.out k hkl.out
          have a2 := HAT.out wr HB2.out m hml.out
          rw [HP.out] at a1
          rw [HQ.out] at a2
          have HS : (wr.cell? ⟨b, o + k * 4, none⟩ = some (.string (ba p.host)) ∧ wr.cell? ⟨b, o + k * 4 + 1, none⟩ = some (.int .i64 p.out) ∧ wr.cell? ⟨b, o + k * 4 + 2, none⟩ = some (.int .i64 p.inn) ∧ wr.cell? ⟨b, o + k * 4 + 3, none⟩ = some (.string (ba p.proto))) ∧
              (wr.cell? ⟨b, o + m * 4, none⟩ = some (.string (ba q.host)) ∧ wr.cell? ⟨b, o + m * 4 + 1, none⟩ = some (.int .i64 q.out) ∧ wr.cell? ⟨b, o + m * 4 + 2, none⟩ = some (.int .i64 q.inn) ∧ wr.cell? ⟨b, o + m * 4 + 3, none⟩ = some (.string (ba q.proto))) := ⟨a1, a2⟩
          clear a1 a2
          obtain ⟨C, hC⟩ : ∃ C, clashB p q = C := ⟨_, rfl⟩
          have HCL := Lib.hid (fun w0 => rclash_val p q w0)
          rw [hC] at HCL
          have HCC := Lib.hid hC
          clear hC
          have HKP : Hid (∀ W, Below w.heap.size w W → (W.cell? ⟨b, o + k * 4, none⟩ = some (.string (ba p.host)) ∧ W.cell? ⟨b, o + k * 4 + 1, none⟩ = some (.int .i64 p.out) ∧ W.cell? ⟨b, o + k * 4 + 2, none⟩ = some (.int .i64 p.inn) ∧ W.cell? ⟨b, o + k * 4 + 3, none⟩ = some (.string (ba p.proto))) ∧
              (W.cell? ⟨b, o + m * 4, none⟩ = some (.string (ba q.host)) ∧ W.cell? ⟨b, o + m * 4 + 1, none⟩ = some (.int .i64 q.out) ∧ W.cell? ⟨b, o + m * 4 + 2, none⟩ = some (.int .i64 q.inn) ∧ W.cell? ⟨b, o + m * 4 + 3, none⟩ = some (.string (ba q.proto)))) := Lib.hid (fun W hW => by
            have c1 := HAT.out W hW k hkl.out
            have c2 := HAT.out W hW m hml.out
            rw [HP.out] at c1
            rw [HQ.out] at c2
            exact ⟨c1, c2⟩)
          go_wp2_with fail
          go_region_held3 (fun W => (W.cell? ⟨b, o + k * 4, none⟩ = some (.string (ba p.host)) ∧ W.cell? ⟨b, o + k * 4 + 1, none⟩ = some (.int .i64 p.out) ∧ W.cell? ⟨b, o + k * 4 + 2, none⟩ = some (.int .i64 p.inn) ∧ W.cell? ⟨b, o + k * 4 + 3, none⟩ = some (.string (ba p.proto))) ∧
              (W.cell? ⟨b, o + m * 4, none⟩ = some (.string (ba q.host)) ∧ W.cell? ⟨b, o + m * 4 + 1, none⟩ = some (.int .i64 q.out) ∧ W.cell? ⟨b, o + m * 4 + 2, none⟩ = some (.int .i64 q.inn) ∧ W.cell? ⟨b, o + m * 4 + 3, none⟩ = some (.string (ba q.proto)))) (first | exact HS | assumption | exact HKP.out _ HB3.out)
            (first
              | (go_at_call 19; refine (HCL.out _).mono ?_; rintro e w' ⟨rfl, hb⟩; have HB3 : Hid (Below w.heap.size w w') := Lib.hid (by first | exact HB2.out.trans (hb.mono HB2.out.size) | exact HB2.out.drew.trans (hb.mono HB2.out.size)); clear hb))
          clear HS
          cases C with
          | true =>
            have HE : Hid (((k : Int), (m : Int), true) = R) := Lib.hid (by
              rw [← HK.out]
              exact (firstP_at (l := l) hml.out (by omega) (by rw [HP.out, HQ.out]; exact HCC.out) (fun j g1 g2 => by rw [HP.out]; exact HM.out j g1 g2 _)).symm)
            go_wp2
            go_ret3
            exact ⟨by rw [← HE.out]; rfl, HB3.out⟩
          | false =>
            have HM2 : Hid (∀ j (h1 : k < j) (h2 : j < m + 1) (h3 : j < l.length), clashB p l[j] = false) := Lib.hid (fun j g1 g2 g3 => by
              rcases Nat.lt_or_eq_of_le (Nat.le_of_lt_succ g2) with g | g
              · exact HM.out j g1 g g3
              · subst g; rw [HQ.out]; exact HCC.out)
            go_wp2
            go_roundw
            case rel => exact ⟨m + 1, by omega, by omega, by go_num, HB3, HM2⟩
            case measure => simp [intOf]; omega
        · have HE : Hid (firstP (k + 1) (l.drop (k + 1)) = R) := Lib.hid (by
            rw [← HK.out]
            exact (firstP_none hkl.out (fun j g1 g2 => by rw [HP.out]; exact HM.out j g1 (by rw [HN.out] at g2; omega) g2)).symm)
          have hmz : ¬ (m : Int) < (n : Int) := by omega
          go_wp2
          go_roundw
          case rel => exact ⟨k + 1, by omega, by go_num, HB2, HE⟩
          case measure => simp [intOf]; omega
    · obtain rfl : k = n := by omega
      have HE : Hid (((0 : Int), (0 : Int), false) = R) := Lib.hid (by
        have := HK.out
        rw [List.drop_of_length_le (by rw [HN.out]; exact Nat.le_refl _)] at this
        exact this)
      clear HK
      go_wp2
      go_ret3
      exact ⟨by rw [← HE.out]; rfl, HB.out⟩
set_option maxRecDepth 100000 in
set_option maxHeartbeats 8000000 in
theorem RSame_eq (v1 v2 : Value) (l : List Po) (w : World) (h1 : PR w v1 l) (h2 : PR w v2 l) (hl : l.length ≤ 100000) :
    Calls Tryd.prog 16 #[v1, v2] w fun e w' => e = .returned (.bool true) ∧ Below w.heap.size w w' := by
  obtain ⟨a, cap, rfl, g1, g2, g3⟩ := h1
  obtain ⟨a2, cap2, rfl, k1, k2, k3⟩ := h2
  have G3 := Lib.hid g3
  have K3 := Lib.hid k3
  obtain ⟨n, hn⟩ : ∃ n, l.length = n := ⟨_, rfl⟩
  have HN := Lib.hid hn
  rw [hn] at g1 k1 hl ⊢
  unfold maxLen at g2 k2
  have e0 : ((n : Int) == (n : Int)) = true := beq_self_eq_true _
  have e1 : ((n : Int) != (n : Int)) = false := by rw [bne, e0]; rfl
  clear g3 k3 hn
  go_enter Tryd.func16, Tryd.ntmps16
  go_wp2
  go_loopw [5] (fun s5 wr => ∃ k q : Nat, k ≤ n ∧ s5 = .int .i64 (k : Int) ∧ wr = w.drewN q) (fun si _ => n - (intOf si).toNat)
  case atStart => exact ⟨0, 0, Nat.zero_le _, rfl, rfl⟩
  case round =>
    obtain ⟨k, q, hk, rfl, rfl⟩ := hrel
    by_cases hlt : k < n
    · have hkl : Hid (k < l.length) := Lib.hid (by rw [HN.out]; exact hlt)
      have hkz : (k : Int) < (n : Int) := by omega
      have kw : IntKind.i64.wrap ((k : Int) + 1) = (k : Int) + 1 := IntWalk.i64_in _ (by omega)
      rcases G3.out with ⟨h0, _⟩ | ⟨b, o, rfl, hb, hat⟩
      · exact absurd hkl.out (by rw [h0]; exact Nat.not_lt_zero _)
      rcases K3.out with ⟨h0, _⟩ | ⟨b2, o2, rfl, hb2, hat2⟩
      · exact absurd hkl.out (by rw [h0]; exact Nat.not_lt_zero _)
      obtain ⟨c0, c1, c2, c3⟩ := hat k hkl.out
      obtain ⟨d0, d1, d2, d3⟩ := hat2 k hkl.out
      clear hat hat2
      obtain ⟨x, hx⟩ : ∃ x, l[k]'hkl.out = x := ⟨_, rfl⟩
      rw [hx] at c0 c1 c2 c3 d0 d1 d2 d3
      have HEQ : ∀ W, (Op.equalIn 10000 24 (.agg #[.string (ba x.host), .int .i64 x.out, .int .i64 x.inn, .string (ba x.proto)]) (.agg #[.string (ba x.host), .int .i64 x.out, .int .i64 x.inn, .string (ba x.proto)])).run Tryd.prog W = .ok true W := fun W => by rw [eq_val, decide_eq_true rfl]
      clear hx
      go_wp2_with fail
      go_region
      go_wp2
      go_roundw
      case rel => exact ⟨k + 1, q + 1, by omega, by go_num, rfl⟩
      case measure => simp [intOf]; omega
    · obtain rfl : k = n := by omega
      have hkz : ¬ (k : Int) < (k : Int) := by omega
      go_wp2
      go_ret
      exact ⟨rfl, below_drewN' (Below.refl _ _) q⟩
end Go.Proofs.YtkgfinhepbipeaaDoor
