/- The reference's Sorted: again and again the least port that is left. -/
import Derived.Test.YtkgfinhepbipeaaDoorRefPrt9
import Derived.Test.YtkgfinhepbipeaaDoorPrtSrt
import Derived.Shelf.SlSortCmp.QuietGrown
namespace Go.Proofs.YtkgfinhepbipeaaDoor
open Go.RowKit Go.Sort
open Nw Dg P16 Go.ChangeShapes Go.WideShapes
set_option linter.unusedVariables false
set_option linter.unusedSimpArgs false
theorem two_grown (w : World) (c d : Obj) : ∃ q os, (w.alloc c).alloc d = grow (w.drewN q) os := ⟨0, #[c] ++ #[d], by rw [alloc_eq_grow, alloc_eq_grow, grow_grow]; rfl⟩
set_option maxRecDepth 100000 in
set_option maxHeartbeats 8000000 in
theorem RLess16_grown (h pr h2 pr2 : ByteArray) (o i o2 i2 : Int) (w : World) :
    Calls Tryd.prog 34 #[.agg #[.string h, .int .i64 o, .int .i64 i, .string pr], .agg #[.string h2, .int .i64 o2, .int .i64 i2, .string pr2]] w fun e w' => e = .returned (.bool (lessP ⟨h.data.toList, o, i, pr.data.toList⟩ ⟨h2.data.toList, o2, i2, pr2.data.toList⟩)) ∧ ∃ q os, w' = grow (w.drewN q) os := by
  obtain ⟨R, hR⟩ : ∃ R, lessP ⟨h.data.toList, o, i, pr.data.toList⟩ ⟨h2.data.toList, o2, i2, pr2.data.toList⟩ = R := ⟨_, rfl⟩
  have HR : Hid (R = if i ≠ i2 then decide (i < i2) else if pr.data.toList ≠ pr2.data.toList then decide (pr.data.toList < pr2.data.toList) else if h.data.toList ≠ h2.data.toList then decide (h.data.toList < h2.data.toList) else decide (o < o2)) := Lib.hid hR.symm
  rw [hR]
  clear hR
  by_cases h1 : ¬ i = i2
  · obtain ⟨B, hB⟩ : ∃ B, decide (i < i2) = B := ⟨_, rfl⟩
    have HE : Hid (R = B) := Lib.hid (by rw [HR.out, if_pos h1, hB])
    have e1 : (i == i2) = false := beq_eq_false_iff_ne.2 h1
    have e2 : (i != i2) = true := bne_iff_ne.2 h1
    clear HR
    go_enter Tryd.func34, Tryd.ntmps34
    go_wp2
    go_ret
    exact ⟨by rw [HE.out, ← hB]; rfl, two_grown _ _ _⟩
  have h1 := Classical.not_not.1 h1
  subst h1
  by_cases h2' : ¬ pr = pr2
  · have hn : pr.data.toList ≠ pr2.data.toList := fun e => h2' (ba_extP e)
    have HE : Hid (R = decide (pr.data.toList < pr2.data.toList)) := Lib.hid (by rw [HR.out, if_neg (by simp), if_pos hn])
    have e1 := str_fP h2'
    clear HR
    go_enter Tryd.func34, Tryd.ntmps34
    go_wp2
    go_ret
    exact ⟨ret_bP (by rw [HE.out]; simp only [ByteArray.toList_eq, bytesLess_eq]), two_grown _ _ _⟩
  have h2' := Classical.not_not.1 h2'
  subst h2'
  by_cases h3 : ¬ h = h2
  · have hn : h.data.toList ≠ h2.data.toList := fun e => h3 (ba_extP e)
    have HE : Hid (R = decide (h.data.toList < h2.data.toList)) := Lib.hid (by rw [HR.out, if_neg (by simp), if_neg (by simp), if_pos hn])
    have e1 := str_fP h3
    clear HR
    go_enter Tryd.func34, Tryd.ntmps34
    go_wp2
    go_ret
    exact ⟨ret_bP (by rw [HE.out]; simp only [ByteArray.toList_eq, bytesLess_eq]), two_grown _ _ _⟩
  have h3 := Classical.not_not.1 h3
  subst h3
  have HE : Hid (R = decide (o < o2)) := Lib.hid (by rw [HR.out, if_neg (by simp), if_neg (by simp), if_neg (by simp)])
  clear HR
  go_enter Tryd.func34, Tryd.ntmps34
  go_wp2
  go_ret
  exact ⟨by rw [HE.out]; rfl, two_grown _ _ _⟩
theorem rless_val (p q : Po) (w : World) : Calls Tryd.prog 34 #[.agg #[.string (ba p.host), .int .i64 p.out, .int .i64 p.inn, .string (ba p.proto)], .agg #[.string (ba q.host), .int .i64 q.out, .int .i64 q.inn, .string (ba q.proto)]] w fun e w' => e = .returned (.bool (lessP p q)) ∧ ∃ n os, w' = grow (w.drewN n) os := by
  have h := RLess16_grown (ba p.host) (ba p.proto) (ba q.host) (ba q.proto) p.out p.inn q.out q.inn w
  rw [ba_data, ba_data, ba_data, ba_data] at h
  exact h
theorem below_grown {B : Nat} {w0 W : World} (h : Below B w0 W) (hB : B ≤ W.heap.size) (n : Nat) (os : Array Obj) : Below B w0 (grow (W.drewN n) os) :=
  h.trans ⟨rfl, rfl, rfl, by rw [size_grow]; exact Nat.le_add_right _ _, fun k hk => heap_grow_old (W.drewN n) os (Nat.lt_of_lt_of_le hk hB)⟩
/-- After i elements: no candidate yet, or the least candidate's place. -/
def BestP (l : List Po) (k i : Nat) (bz : Int) : Prop :=
  (bz = -1 ∧ ∀ j (hj : j < l.length), j < i → ¬ Ol.cand lessP l k l[j]) ∨
  (∃ b, ∃ hb : b < l.length, bz = b ∧ b < i ∧ Ol.cand lessP l k l[b] ∧ ∀ j (hj : j < l.length), j < i → Ol.cand lessP l k l[j] → lessP l[j] l[b] = false)
theorem BestP.start (l : List Po) (k : Nat) : BestP l k 0 (-1) := .inl ⟨rfl, fun j _ h => absurd h (Nat.not_lt_zero _)⟩
theorem BestP.skip {l : List Po} {k i : Nat} {bz : Int} (h : BestP l k i bz) (hi : i < l.length) (hn : ¬ Ol.cand lessP l k l[i]) : BestP l k (i + 1) bz := by
  rcases h with ⟨e, h⟩ | ⟨b, hb, e, hbi, hc, hmin⟩
  · refine .inl ⟨e, fun j hj hji => ?_⟩
    rcases Nat.lt_succ_iff_lt_or_eq.1 hji with h1 | rfl
    · exact h j hj h1
    · exact hn
  · refine .inr ⟨b, hb, e, by omega, hc, fun j hj hji hcj => ?_⟩
    rcases Nat.lt_succ_iff_lt_or_eq.1 hji with h1 | rfl
    · exact hmin j hj h1 hcj
    · exact absurd hcj hn
theorem BestP.keep {l : List Po} {k i b : Nat} (hb : b < l.length) (h : BestP l k i (b : Int)) (hi : i < l.length) (hn : lessP l[i] l[b] = false) : BestP l k (i + 1) (b : Int) := by
  rcases h with ⟨e, _⟩ | ⟨b', hb', e, hbi, hc, hmin⟩
  · omega
  · obtain rfl : b = b' := by omega
    refine .inr ⟨b, hb, e, by omega, hc, fun j hj hji hcj => ?_⟩
    rcases Nat.lt_succ_iff_lt_or_eq.1 hji with h1 | rfl
    · exact hmin j hj h1 hcj
    · exact hn
theorem BestP.first {l : List Po} {k i : Nat} (h : BestP l k i (-1)) (hi : i < l.length) (hc : Ol.cand lessP l k l[i]) : BestP l k (i + 1) (i : Int) := by
  rcases h with ⟨_, h⟩ | ⟨b, hb, e, _⟩
  · refine .inr ⟨i, hi, rfl, by omega, hc, fun j hj hji hcj => ?_⟩
    rcases Nat.lt_succ_iff_lt_or_eq.1 hji with h1 | rfl
    · exact absurd hcj (h j hj h1)
    · exact lessP_irr _
  · omega
theorem BestP.less {l : List Po} {k i b : Nat} (hb : b < l.length) (h : BestP l k i (b : Int)) (hi : i < l.length) (hc : Ol.cand lessP l k l[i]) (hl : lessP l[i] l[b] = true) : BestP l k (i + 1) (i : Int) := by
  rcases h with ⟨e, _⟩ | ⟨b', hb', e, hbi, hc', hmin⟩
  · omega
  · obtain rfl : b = b' := by omega
    refine .inr ⟨i, hi, rfl, by omega, hc, fun j hj hji hcj => ?_⟩
    rcases Nat.lt_succ_iff_lt_or_eq.1 hji with h1 | rfl
    · refine Bool.eq_false_iff.2 fun h2 => ?_
      have h3 := hmin j hj h1 hcj
      rw [lessP_tr h2 hl] at h3; cases h3
    · exact lessP_irr _
theorem BestP.done_none {l : List Po} {k : Nat} (hk : k ≤ (Ol.srt lessP l).length) (h : BestP l k l.length (-1)) : k = (Ol.srt lessP l).length := by
  rcases h with ⟨_, h⟩ | ⟨b, hb, e, _⟩
  · refine Ol.none_left less_strict hk fun y hy hc => ?_
    obtain ⟨j, hj, rfl⟩ := List.mem_iff_getElem.1 hy
    exact h j hj hj hc
  · omega
theorem BestP.done_some {l : List Po} {k b : Nat} (hk : k ≤ (Ol.srt lessP l).length) (hb : b < l.length) (h : BestP l k l.length (b : Int)) : ∃ h : k < (Ol.srt lessP l).length, (Ol.srt lessP l)[k] = l[b] := by
  rcases h with ⟨e, _⟩ | ⟨b', hb', e, _, hc, hmin⟩
  · omega
  · obtain rfl : b = b' := by omega
    refine Ol.next_is less_strict hk (List.getElem_mem _) hc fun z hz hcz => ?_
    obtain ⟨j, hj, rfl⟩ := List.mem_iff_getElem.1 hz
    exact hmin j hj hj hcz
theorem BestP.place {l : List Po} {k i : Nat} {bz : Int} (h : BestP l k i bz) : bz = -1 ∨ ∃ b : Nat, bz = b ∧ b < l.length := by
  rcases h with ⟨e, _⟩ | ⟨b, hb, e, _⟩
  · exact .inl e
  · exact .inr ⟨b, e, hb⟩
theorem cand_pos {l : List Po} {k : Nat} (hk : 0 < k) (hk' : k - 1 < (Ol.srt lessP l).length) (y : Po) : Ol.cand lessP l k y ↔ lessP (Ol.srt lessP l)[k - 1] y = true := by
  unfold Ol.cand
  constructor
  · rintro (h | ⟨p, hp, h⟩)
    · omega
    · rw [List.getElem?_eq_getElem hk'] at hp
      rw [Option.some.inj hp]; exact h
  · exact fun h => .inr ⟨_, List.getElem?_eq_getElem hk', h⟩
theorem owns_keepP {w w' : World} {base n size : Nat} {e : TypeId} {v : Value} {xs : List Value} (h : w.ownsRow base e size v n xs) (hb : Below w.heap.size w w') : w'.ownsRow base e size v n xs := by
  have hr : ∀ g, v.ownBlock = some g → w'.heap[g]? = w.heap[g]? := fun g hg => hb.block g (h.lt g hg).2
  refine ⟨h.1, ?_⟩
  rcases h.2 with h0 | ⟨g, cap, cur, h1, h2, h3, h4⟩
  · exact .inl h0
  · exact .inr ⟨g, cap, cur, h1, h2, (hr g (by rw [h1]; rfl)).trans h3, h4⟩
theorem owns_readP {w : World} {base n : Nat} {e : TypeId} {v : Value} {l : List Po} (h : w.ownsRow base e 4 v n (cellsP l)) :
    ∃ a cap, v = .slice a n cap ∧ n ≤ cap ∧ cap ≤ maxLen ∧ l.length = n ∧ (n = 0 ∨ ∃ g, a = some ⟨g, 0, none⟩ ∧ g < w.heap.size ∧ ∀ j (hj : j < l.length), At4 w g 0 j l[j]) := by
  obtain ⟨⟨a, cap, hv, h1, h2, h3⟩, hl⟩ := pr_of_owns h
  rw [hl] at hv h1
  refine ⟨a, cap, hv, h1, h2, hl, ?_⟩
  rcases h.2 with ⟨e0, h0⟩ | ⟨g, cap', cur, hv', _⟩
  · exact .inl h0
  · rcases h3 with ⟨rfl, _⟩ | ⟨b, o, ha, h4, h5⟩
    · exact .inl (by rw [← hl]; rfl)
    · rw [hv] at hv'
      injection hv' with e1 e2 e3
      rw [ha] at e1
      injection e1 with e1
      injection e1 with e1 e4
      subst e1; subst e4
      exact .inr ⟨b, ha, h4, h5⟩
set_option maxRecDepth 100000 in
set_option maxHeartbeats 16000000 in
theorem RSorted16_any (v : Value) (l : List Po) (w : World) (h : PR w v l) (hl : l.length ≤ 100000) :
    Calls Tryd.prog 17 #[v] w fun e w' => ∃ v', e = .returned v' ∧ PR w' v' (Ol.srt lessP l) ∧ Below w.heap.size w w' := by
  obtain ⟨i0, hi, hz0, hz1, hz2⟩ := infoP
  obtain ⟨a, cap, rfl, h1, h2, h3⟩ := h
  obtain ⟨S, hS⟩ : ∃ S, S = Ol.srt lessP l := ⟨_, rfl⟩
  have HSR := Lib.hid hS
  obtain ⟨n, hn⟩ : ∃ n, l.length = n := ⟨_, rfl⟩
  have hSl : S.length ≤ n := by rw [hS, ← hn]; exact Ol.srt_len l
  have HN := Lib.hid hn
  rw [← hS]
  rw [hn] at h1 hl ⊢
  clear hS hn
  unfold maxLen at h2
  have H3 := Lib.hid h3
  clear h3
  go_enter Tryd.func17, Tryd.ntmps17
  go_wp2
  go_loopg [3, 4, 5] S.length (fun gg v3 v4 v5 wr => ∃ k : Nat, k ≤ S.length ∧ S.length - k ≤ gg ∧ Hid (wr.ownsRow w.heap.size 24 4 v3 k (cellsP (S.take k))) ∧ Hid (Below w.heap.size w wr))
  case atStart => exact ⟨0, Nat.zero_le _, by omega, Lib.hid (ownP_literal w _ (Nat.le_refl _)), Lib.hid ((Below.refl _ _).alloc (Nat.le_refl _) _)⟩
  case round =>
    obtain ⟨k, hk, hgg, HW, HL⟩ := hrel
    obtain ⟨w0, hw0⟩ : ∃ w0, w0 = wr := ⟨_, rfl⟩
    subst hw0
    obtain ⟨a3, cap3, rfl, k1, k2, k3, k4⟩ := owns_readP HW.out
    unfold maxLen at k2
    have K4 := Lib.hid k4
    clear k4 k3
    go_wp2
    go_loopw [4, 5] (fun best i wi => ∃ (j : Nat) (bz : Int), j ≤ n ∧ i = .int .i64 (j : Int) ∧ best = .int .i64 bz ∧ Hid (BestP l k j bz) ∧ Hid (Below w0.heap.size w0 wi)) (fun _ i _ => n - (intOf i).toNat)
    case atStart => exact ⟨0, -1, Nat.zero_le _, rfl, rfl, Lib.hid (BestP.start l k), Lib.hid (Below.refl _ _)⟩
    case round =>
      obtain ⟨j, bz, hj, rfl, rfl, HBI, HB2⟩ := hrel
      by_cases hlt : j < n
      · have hjl : Hid (j < l.length) := Lib.hid (by rw [HN.out]; exact hlt)
        rcases H3.out with ⟨e0, _⟩ | ⟨b, o, rfl, h4, h5⟩
        · exact absurd hjl.out (by rw [e0]; exact Nat.not_lt_zero _)
        have HCA : Hid (∀ W, Below w0.heap.size w0 W → ∀ j (h : j < l.length), At4 W b o j l[j]) := Lib.hid (fun W hW j hj => ((h5 j hj).below h4 HL.out).below (Nat.lt_of_lt_of_le h4 HL.out.size) hW)
        have H4 := Lib.hid h4
        clear h5 h4
        have hltz : (j : Int) < (n : Int) := by omega
        have kw : IntKind.i64.wrap ((j : Int) + 1) = (j : Int) + 1 := IntWalk.i64_in _ (by omega)
        obtain ⟨x, hx⟩ : ∃ x, l[j]'hjl.out = x := ⟨_, rfl⟩
        have HX := Lib.hid hx
        clear hx
        by_cases hk0 : k = 0
        · have hk0z : ((k : Int) == 0) = true := by rw [hk0]; rfl
          have HCand : Hid (Ol.cand lessP l k (l[j]'hjl.out)) := Lib.hid (.inl hk0)
          clear hk0
          rcases HBI.out.place with hbz | ⟨b2, hbz, hb2⟩
          · subst hbz
            go_wp2_with fail
            go_quiet (fail)
            go_wp2
            go_roundw
            case rel => exact ⟨j + 1, (j : Int), by omega, by go_num, rfl, Lib.hid (HBI.out.first hjl.out HCand.out), Lib.hid (HB2.out.trans (below_drewN' (Below.refl _ _) _ |>.mono HB2.out.size))⟩
            case measure => simp [intOf]; omega
          · subst hbz
            have hn1 : decide ((b2 : Int) < 0) = false := decide_eq_false (by omega)
            have hn2 : ¬ (b2 : Int) < 0 := by omega
            have hb2z : (b2 : Int) < (n : Int) := by have := HN.out; omega
            have hb2n : b2 < n := by have := HN.out; omega
            obtain ⟨y, hy⟩ : ∃ y, l[b2]'hb2 = y := ⟨_, rfl⟩
            have HY := Lib.hid hy
            clear hy
            cases hll : lessP x y with
            | true =>
              have HLL := Lib.hid hll
              have HL2 := Lib.hid (fun w9 => rless_val x y w9)
              rw [hll] at HL2
              have hb1 : b < wr.heap.size := Nat.lt_of_lt_of_le H4.out (Nat.le_trans HL.out.size HB2.out.size)
              have A0 : (wr.cell? ⟨b, o + j * 4, none⟩ = some (.string (ba x.host)) ∧ wr.cell? ⟨b, o + j * 4 + 1, none⟩ = some (.int .i64 x.out) ∧ wr.cell? ⟨b, o + j * 4 + 2, none⟩ = some (.int .i64 x.inn) ∧ wr.cell? ⟨b, o + j * 4 + 3, none⟩ = some (.string (ba x.proto))) := (by have := HCA.out wr HB2.out j hjl.out; rw [HX.out] at this; exact this)
              have e00 : ∀ n os, (grow (wr.drewN n) os).cell? ⟨b, o + j * 4, none⟩ = some (.string (ba x.host)) := cell_grown (a := ⟨b, o + j * 4, none⟩) hb1 A0.1
              have e01 : ∀ n os, (grow (wr.drewN n) os).cell? ⟨b, o + j * 4 + 1, none⟩ = some (.int .i64 x.out) := cell_grown (a := ⟨b, o + j * 4 + 1, none⟩) hb1 A0.2.1
              have e02 : ∀ n os, (grow (wr.drewN n) os).cell? ⟨b, o + j * 4 + 2, none⟩ = some (.int .i64 x.inn) := cell_grown (a := ⟨b, o + j * 4 + 2, none⟩) hb1 A0.2.2.1
              have e03 : ∀ n os, (grow (wr.drewN n) os).cell? ⟨b, o + j * 4 + 3, none⟩ = some (.string (ba x.proto)) := cell_grown (a := ⟨b, o + j * 4 + 3, none⟩) hb1 A0.2.2.2
              have A1 : (wr.cell? ⟨b, o + b2 * 4, none⟩ = some (.string (ba y.host)) ∧ wr.cell? ⟨b, o + b2 * 4 + 1, none⟩ = some (.int .i64 y.out) ∧ wr.cell? ⟨b, o + b2 * 4 + 2, none⟩ = some (.int .i64 y.inn) ∧ wr.cell? ⟨b, o + b2 * 4 + 3, none⟩ = some (.string (ba y.proto))) := (by have := HCA.out wr HB2.out b2 hb2; rw [HY.out] at this; exact this)
              have e10 : ∀ n os, (grow (wr.drewN n) os).cell? ⟨b, o + b2 * 4, none⟩ = some (.string (ba y.host)) := cell_grown (a := ⟨b, o + b2 * 4, none⟩) hb1 A1.1
              have e11 : ∀ n os, (grow (wr.drewN n) os).cell? ⟨b, o + b2 * 4 + 1, none⟩ = some (.int .i64 y.out) := cell_grown (a := ⟨b, o + b2 * 4 + 1, none⟩) hb1 A1.2.1
              have e12 : ∀ n os, (grow (wr.drewN n) os).cell? ⟨b, o + b2 * 4 + 2, none⟩ = some (.int .i64 y.inn) := cell_grown (a := ⟨b, o + b2 * 4 + 2, none⟩) hb1 A1.2.2.1
              have e13 : ∀ n os, (grow (wr.drewN n) os).cell? ⟨b, o + b2 * 4 + 3, none⟩ = some (.string (ba y.proto)) := cell_grown (a := ⟨b, o + b2 * 4 + 3, none⟩) hb1 A1.2.2.2
              clear A0 A1 hll
              have mixed : Tryd.prog.follows .mixedOrders = true := by kernel_rfl
              go_wp2_with fail
              refine wp_region_quiet_grown (by assumption) (by kernel_rfl) ?_
              repeat (
                (with_reducible refine wpQuiet_step (fun K hK => ?_))
                go_simp
                first
                  | ((with_reducible refine hK _ ?_); clear hK K)
                  | ((with_reducible apply Exists.intro); (with_reducible refine ⟨fun _ => ?_, hK _ ?_⟩); (first | (go_at_call 34; with_reducible exact Calls.grown_of (HL2.out _))); clear hK K)
                  | (refine hK _ ?_; clear hK K))
              (with_reducible refine wpQuiet_nil ?_)
              intro _ hw9
              obtain ⟨⟨nq, osq⟩, hw8⟩ := hw9
              subst hw8
              clear e00 e01 e02 e03 e10 e11 e12 e13
              go_wp2
              go_roundw
              case rel => exact ⟨j + 1, (j : Int), by omega, by go_num, rfl, Lib.hid (HBI.out.less hb2 hjl.out HCand.out (by rw [HX.out, HY.out]; exact HLL.out)), Lib.hid (below_grown HB2.out HB2.out.size _ _)⟩
              case measure => simp [intOf]; omega
            | false =>
              have HLL := Lib.hid hll
              have HL2 := Lib.hid (fun w9 => rless_val x y w9)
              rw [hll] at HL2
              have hb1 : b < wr.heap.size := Nat.lt_of_lt_of_le H4.out (Nat.le_trans HL.out.size HB2.out.size)
              have A0 : (wr.cell? ⟨b, o + j * 4, none⟩ = some (.string (ba x.host)) ∧ wr.cell? ⟨b, o + j * 4 + 1, none⟩ = some (.int .i64 x.out) ∧ wr.cell? ⟨b, o + j * 4 + 2, none⟩ = some (.int .i64 x.inn) ∧ wr.cell? ⟨b, o + j * 4 + 3, none⟩ = some (.string (ba x.proto))) := (by have := HCA.out wr HB2.out j hjl.out; rw [HX.out] at this; exact this)
              have e00 : ∀ n os, (grow (wr.drewN n) os).cell? ⟨b, o + j * 4, none⟩ = some (.string (ba x.host)) := cell_grown (a := ⟨b, o + j * 4, none⟩) hb1 A0.1
              have e01 : ∀ n os, (grow (wr.drewN n) os).cell? ⟨b, o + j * 4 + 1, none⟩ = some (.int .i64 x.out) := cell_grown (a := ⟨b, o + j * 4 + 1, none⟩) hb1 A0.2.1
              have e02 : ∀ n os, (grow (wr.drewN n) os).cell? ⟨b, o + j * 4 + 2, none⟩ = some (.int .i64 x.inn) := cell_grown (a := ⟨b, o + j * 4 + 2, none⟩) hb1 A0.2.2.1
              have e03 : ∀ n os, (grow (wr.drewN n) os).cell? ⟨b, o + j * 4 + 3, none⟩ = some (.string (ba x.proto)) := cell_grown (a := ⟨b, o + j * 4 + 3, none⟩) hb1 A0.2.2.2
              have A1 : (wr.cell? ⟨b, o + b2 * 4, none⟩ = some (.string (ba y.host)) ∧ wr.cell? ⟨b, o + b2 * 4 + 1, none⟩ = some (.int .i64 y.out) ∧ wr.cell? ⟨b, o + b2 * 4 + 2, none⟩ = some (.int .i64 y.inn) ∧ wr.cell? ⟨b, o + b2 * 4 + 3, none⟩ = some (.string (ba y.proto))) := (by have := HCA.out wr HB2.out b2 hb2; rw [HY.out] at this; exact this)
              have e10 : ∀ n os, (grow (wr.drewN n) os).cell? ⟨b, o + b2 * 4, none⟩ = some (.string (ba y.host)) := cell_grown (a := ⟨b, o + b2 * 4, none⟩) hb1 A1.1
              have e11 : ∀ n os, (grow (wr.drewN n) os).cell? ⟨b, o + b2 * 4 + 1, none⟩ = some (.int .i64 y.out) := cell_grown (a := ⟨b, o + b2 * 4 + 1, none⟩) hb1 A1.2.1
              have e12 : ∀ n os, (grow (wr.drewN n) os).cell? ⟨b, o + b2 * 4 + 2, none⟩ = some (.int .i64 y.inn) := cell_grown (a := ⟨b, o + b2 * 4 + 2, none⟩) hb1 A1.2.2.1
              have e13 : ∀ n os, (grow (wr.drewN n) os).cell? ⟨b, o + b2 * 4 + 3, none⟩ = some (.string (ba y.proto)) := cell_grown (a := ⟨b, o + b2 * 4 + 3, none⟩) hb1 A1.2.2.2
              clear A0 A1 hll
              have mixed : Tryd.prog.follows .mixedOrders = true := by kernel_rfl
              go_wp2_with fail
              refine wp_region_quiet_grown (by assumption) (by kernel_rfl) ?_
              repeat (
                (with_reducible refine wpQuiet_step (fun K hK => ?_))
                go_simp
                first
                  | ((with_reducible refine hK _ ?_); clear hK K)
                  | ((with_reducible apply Exists.intro); (with_reducible refine ⟨fun _ => ?_, hK _ ?_⟩); (first | (go_at_call 34; with_reducible exact Calls.grown_of (HL2.out _))); clear hK K)
                  | (refine hK _ ?_; clear hK K))
              (with_reducible refine wpQuiet_nil ?_)
              intro _ hw9
              obtain ⟨⟨nq, osq⟩, hw8⟩ := hw9
              subst hw8
              clear e00 e01 e02 e03 e10 e11 e12 e13
              go_wp2
              go_roundw
              case rel => exact ⟨j + 1, (b2 : Int), by omega, by go_num, rfl, Lib.hid (HBI.out.keep hb2 hjl.out (by rw [HX.out, HY.out]; exact HLL.out)), Lib.hid (below_grown HB2.out HB2.out.size _ _)⟩
              case measure => simp [intOf]; omega
        · have hk0z : ((k : Int) == 0) = false := beq_eq_false_iff_ne.2 (by omega)
          have hkS : Hid (k - 1 < S.length) := Lib.hid (by omega)
          rcases K4.out with e0 | ⟨g, ha3, hg0, k5⟩
          · exact absurd e0 hk0
          subst ha3
          obtain ⟨s0, hs0⟩ : ∃ s0, S[k - 1]'hkS.out = s0 := ⟨_, rfl⟩
          have HOUT : Hid (∀ W, Below w0.heap.size w0 W → At4 W g 0 (k - 1) s0) := Lib.hid (fun W hW => by
            have := k5 (k - 1) (by rw [List.length_take]; omega)
            rw [List.getElem_take, hs0] at this
            exact this.below hg0 hW)
          have HCP : Hid (Ol.cand lessP l k (l[j]'hjl.out) ↔ lessP s0 x = true) := Lib.hid (by
            have := cand_pos (l := l) (k := k) (by omega) (by rw [← HSR.out]; exact hkS.out) (l[j]'hjl.out)
            rw [this, ← hs0, HX.out]; simp only [HSR.out])
          clear k5 hs0
          have c1 : (0 : Int) ≤ (k : Int) - 1 := by omega
          have c2 : ((k : Int) - 1).toNat = k - 1 := by omega
          have c3 : k - 1 < k := by omega
          have c4 : (1 : Int) ≤ (k : Int) := by omega
          have c7 : (k : Int) - 1 < (k : Int) := by omega
          have c5 : 0 < k := by omega
          have c6 : IntKind.i64.wrap ((k : Int) - 1) = (k : Int) - 1 := IntWalk.i64_in _ (by omega)
          clear hk0
          cases hgt : lessP s0 x with
          | true =>
            have HCand : Hid (Ol.cand lessP l k (l[j]'hjl.out)) := Lib.hid (HCP.out.2 hgt)
            rcases HBI.out.place with hbz | ⟨b2, hbz, hb2⟩
            · subst hbz
              have HL1 := Lib.hid (fun w9 => rless_val s0 x w9)
              rw [hgt] at HL1
              have hg1 : g < wr.heap.size := Nat.lt_of_lt_of_le hg0 HB2.out.size
              have hb1 : b < wr.heap.size := Nat.lt_of_lt_of_le H4.out (Nat.le_trans HL.out.size HB2.out.size)
              have A0 : (wr.cell? ⟨g, (k - 1) * 4, none⟩ = some (.string (ba s0.host)) ∧ wr.cell? ⟨g, (k - 1) * 4 + 1, none⟩ = some (.int .i64 s0.out) ∧ wr.cell? ⟨g, (k - 1) * 4 + 2, none⟩ = some (.int .i64 s0.inn) ∧ wr.cell? ⟨g, (k - 1) * 4 + 3, none⟩ = some (.string (ba s0.proto))) := (by have := HOUT.out wr HB2.out; unfold At4 at this; rw [Nat.zero_add] at this; exact this)
              have e00 : ∀ n os, (grow (wr.drewN n) os).cell? ⟨g, (k - 1) * 4, none⟩ = some (.string (ba s0.host)) := cell_grown (a := ⟨g, (k - 1) * 4, none⟩) hg1 A0.1
              have e01 : ∀ n os, (grow (wr.drewN n) os).cell? ⟨g, (k - 1) * 4 + 1, none⟩ = some (.int .i64 s0.out) := cell_grown (a := ⟨g, (k - 1) * 4 + 1, none⟩) hg1 A0.2.1
              have e02 : ∀ n os, (grow (wr.drewN n) os).cell? ⟨g, (k - 1) * 4 + 2, none⟩ = some (.int .i64 s0.inn) := cell_grown (a := ⟨g, (k - 1) * 4 + 2, none⟩) hg1 A0.2.2.1
              have e03 : ∀ n os, (grow (wr.drewN n) os).cell? ⟨g, (k - 1) * 4 + 3, none⟩ = some (.string (ba s0.proto)) := cell_grown (a := ⟨g, (k - 1) * 4 + 3, none⟩) hg1 A0.2.2.2
              have A1 : (wr.cell? ⟨b, o + j * 4, none⟩ = some (.string (ba x.host)) ∧ wr.cell? ⟨b, o + j * 4 + 1, none⟩ = some (.int .i64 x.out) ∧ wr.cell? ⟨b, o + j * 4 + 2, none⟩ = some (.int .i64 x.inn) ∧ wr.cell? ⟨b, o + j * 4 + 3, none⟩ = some (.string (ba x.proto))) := (by have := HCA.out wr HB2.out j hjl.out; rw [HX.out] at this; exact this)
              have e10 : ∀ n os, (grow (wr.drewN n) os).cell? ⟨b, o + j * 4, none⟩ = some (.string (ba x.host)) := cell_grown (a := ⟨b, o + j * 4, none⟩) hb1 A1.1
              have e11 : ∀ n os, (grow (wr.drewN n) os).cell? ⟨b, o + j * 4 + 1, none⟩ = some (.int .i64 x.out) := cell_grown (a := ⟨b, o + j * 4 + 1, none⟩) hb1 A1.2.1
              have e12 : ∀ n os, (grow (wr.drewN n) os).cell? ⟨b, o + j * 4 + 2, none⟩ = some (.int .i64 x.inn) := cell_grown (a := ⟨b, o + j * 4 + 2, none⟩) hb1 A1.2.2.1
              have e13 : ∀ n os, (grow (wr.drewN n) os).cell? ⟨b, o + j * 4 + 3, none⟩ = some (.string (ba x.proto)) := cell_grown (a := ⟨b, o + j * 4 + 3, none⟩) hb1 A1.2.2.2
              clear A0 A1 hgt
              have mixed : Tryd.prog.follows .mixedOrders = true := by kernel_rfl
              go_wp2_with fail
              refine wp_region_quiet_grown (by assumption) (by kernel_rfl) ?_
              repeat (
                (with_reducible refine wpQuiet_step (fun K hK => ?_))
                go_simp
                first
                  | ((with_reducible refine hK _ ?_); clear hK K)
                  | ((with_reducible apply Exists.intro); (with_reducible refine ⟨fun _ => ?_, hK _ ?_⟩); (first | (go_at_call 34; with_reducible exact Calls.grown_of (HL1.out _))); clear hK K)
                  | (refine hK _ ?_; clear hK K))
              (with_reducible refine wpQuiet_nil ?_)
              intro _ hw9
              obtain ⟨⟨nq, osq⟩, hw8⟩ := hw9
              subst hw8
              clear e00 e01 e02 e03 e10 e11 e12 e13
              go_wp2
              go_roundw
              case rel => exact ⟨j + 1, (j : Int), by omega, by go_num, rfl, Lib.hid (HBI.out.first hjl.out HCand.out), Lib.hid (below_grown HB2.out HB2.out.size _ _)⟩
              case measure => simp [intOf]; omega
            · subst hbz
              have hn1 : decide ((b2 : Int) < 0) = false := decide_eq_false (by omega)
              have hn2 : ¬ (b2 : Int) < 0 := by omega
              have hb2z : (b2 : Int) < (n : Int) := by have := HN.out; omega
              have hb2n : b2 < n := by have := HN.out; omega
              obtain ⟨y, hy⟩ : ∃ y, l[b2]'hb2 = y := ⟨_, rfl⟩
              have HY := Lib.hid hy
              clear hy
              cases hll : lessP x y with
              | true =>
                have HLL := Lib.hid hll
                have HL1 := Lib.hid (fun w9 => rless_val s0 x w9)
                rw [hgt] at HL1
                have hg1 : g < wr.heap.size := Nat.lt_of_lt_of_le hg0 HB2.out.size
                have HL2 := Lib.hid (fun w9 => rless_val x y w9)
                rw [hll] at HL2
                have hb1 : b < wr.heap.size := Nat.lt_of_lt_of_le H4.out (Nat.le_trans HL.out.size HB2.out.size)
                have A0 : (wr.cell? ⟨g, (k - 1) * 4, none⟩ = some (.string (ba s0.host)) ∧ wr.cell? ⟨g, (k - 1) * 4 + 1, none⟩ = some (.int .i64 s0.out) ∧ wr.cell? ⟨g, (k - 1) * 4 + 2, none⟩ = some (.int .i64 s0.inn) ∧ wr.cell? ⟨g, (k - 1) * 4 + 3, none⟩ = some (.string (ba s0.proto))) := (by have := HOUT.out wr HB2.out; unfold At4 at this; rw [Nat.zero_add] at this; exact this)
                have e00 : ∀ n os, (grow (wr.drewN n) os).cell? ⟨g, (k - 1) * 4, none⟩ = some (.string (ba s0.host)) := cell_grown (a := ⟨g, (k - 1) * 4, none⟩) hg1 A0.1
                have e01 : ∀ n os, (grow (wr.drewN n) os).cell? ⟨g, (k - 1) * 4 + 1, none⟩ = some (.int .i64 s0.out) := cell_grown (a := ⟨g, (k - 1) * 4 + 1, none⟩) hg1 A0.2.1
                have e02 : ∀ n os, (grow (wr.drewN n) os).cell? ⟨g, (k - 1) * 4 + 2, none⟩ = some (.int .i64 s0.inn) := cell_grown (a := ⟨g, (k - 1) * 4 + 2, none⟩) hg1 A0.2.2.1
                have e03 : ∀ n os, (grow (wr.drewN n) os).cell? ⟨g, (k - 1) * 4 + 3, none⟩ = some (.string (ba s0.proto)) := cell_grown (a := ⟨g, (k - 1) * 4 + 3, none⟩) hg1 A0.2.2.2
                have A1 : (wr.cell? ⟨b, o + j * 4, none⟩ = some (.string (ba x.host)) ∧ wr.cell? ⟨b, o + j * 4 + 1, none⟩ = some (.int .i64 x.out) ∧ wr.cell? ⟨b, o + j * 4 + 2, none⟩ = some (.int .i64 x.inn) ∧ wr.cell? ⟨b, o + j * 4 + 3, none⟩ = some (.string (ba x.proto))) := (by have := HCA.out wr HB2.out j hjl.out; rw [HX.out] at this; exact this)
                have e10 : ∀ n os, (grow (wr.drewN n) os).cell? ⟨b, o + j * 4, none⟩ = some (.string (ba x.host)) := cell_grown (a := ⟨b, o + j * 4, none⟩) hb1 A1.1
                have e11 : ∀ n os, (grow (wr.drewN n) os).cell? ⟨b, o + j * 4 + 1, none⟩ = some (.int .i64 x.out) := cell_grown (a := ⟨b, o + j * 4 + 1, none⟩) hb1 A1.2.1
                have e12 : ∀ n os, (grow (wr.drewN n) os).cell? ⟨b, o + j * 4 + 2, none⟩ = some (.int .i64 x.inn) := cell_grown (a := ⟨b, o + j * 4 + 2, none⟩) hb1 A1.2.2.1
                have e13 : ∀ n os, (grow (wr.drewN n) os).cell? ⟨b, o + j * 4 + 3, none⟩ = some (.string (ba x.proto)) := cell_grown (a := ⟨b, o + j * 4 + 3, none⟩) hb1 A1.2.2.2
                have A2 : (wr.cell? ⟨b, o + b2 * 4, none⟩ = some (.string (ba y.host)) ∧ wr.cell? ⟨b, o + b2 * 4 + 1, none⟩ = some (.int .i64 y.out) ∧ wr.cell? ⟨b, o + b2 * 4 + 2, none⟩ = some (.int .i64 y.inn) ∧ wr.cell? ⟨b, o + b2 * 4 + 3, none⟩ = some (.string (ba y.proto))) := (by have := HCA.out wr HB2.out b2 hb2; rw [HY.out] at this; exact this)
                have e20 : ∀ n os, (grow (wr.drewN n) os).cell? ⟨b, o + b2 * 4, none⟩ = some (.string (ba y.host)) := cell_grown (a := ⟨b, o + b2 * 4, none⟩) hb1 A2.1
                have e21 : ∀ n os, (grow (wr.drewN n) os).cell? ⟨b, o + b2 * 4 + 1, none⟩ = some (.int .i64 y.out) := cell_grown (a := ⟨b, o + b2 * 4 + 1, none⟩) hb1 A2.2.1
                have e22 : ∀ n os, (grow (wr.drewN n) os).cell? ⟨b, o + b2 * 4 + 2, none⟩ = some (.int .i64 y.inn) := cell_grown (a := ⟨b, o + b2 * 4 + 2, none⟩) hb1 A2.2.2.1
                have e23 : ∀ n os, (grow (wr.drewN n) os).cell? ⟨b, o + b2 * 4 + 3, none⟩ = some (.string (ba y.proto)) := cell_grown (a := ⟨b, o + b2 * 4 + 3, none⟩) hb1 A2.2.2.2
                clear A0 A1 A2 hgt hll
                have mixed : Tryd.prog.follows .mixedOrders = true := by kernel_rfl
                go_wp2_with fail
                refine wp_region_quiet_grown (by assumption) (by kernel_rfl) ?_
                repeat (
                  (with_reducible refine wpQuiet_step (fun K hK => ?_))
                  go_simp
                  first
                    | ((with_reducible refine hK _ ?_); clear hK K)
                    | ((with_reducible apply Exists.intro); (with_reducible refine ⟨fun _ => ?_, hK _ ?_⟩); (first | (go_at_call 34; with_reducible exact Calls.grown_of (HL1.out _)) | (go_at_call 34; with_reducible exact Calls.grown_of (HL2.out _))); clear hK K)
                    | (refine hK _ ?_; clear hK K))
                (with_reducible refine wpQuiet_nil ?_)
                intro _ hw9
                obtain ⟨⟨nq, osq⟩, hw8⟩ := hw9
                subst hw8
                clear e00 e01 e02 e03 e10 e11 e12 e13 e20 e21 e22 e23
                go_wp2
                go_roundw
                case rel => exact ⟨j + 1, (j : Int), by omega, by go_num, rfl, Lib.hid (HBI.out.less hb2 hjl.out HCand.out (by rw [HX.out, HY.out]; exact HLL.out)), Lib.hid (below_grown HB2.out HB2.out.size _ _)⟩
                case measure => simp [intOf]; omega
              | false =>
                have HLL := Lib.hid hll
                have HL1 := Lib.hid (fun w9 => rless_val s0 x w9)
                rw [hgt] at HL1
                have hg1 : g < wr.heap.size := Nat.lt_of_lt_of_le hg0 HB2.out.size
                have HL2 := Lib.hid (fun w9 => rless_val x y w9)
                rw [hll] at HL2
                have hb1 : b < wr.heap.size := Nat.lt_of_lt_of_le H4.out (Nat.le_trans HL.out.size HB2.out.size)
                have A0 : (wr.cell? ⟨g, (k - 1) * 4, none⟩ = some (.string (ba s0.host)) ∧ wr.cell? ⟨g, (k - 1) * 4 + 1, none⟩ = some (.int .i64 s0.out) ∧ wr.cell? ⟨g, (k - 1) * 4 + 2, none⟩ = some (.int .i64 s0.inn) ∧ wr.cell? ⟨g, (k - 1) * 4 + 3, none⟩ = some (.string (ba s0.proto))) := (by have := HOUT.out wr HB2.out; unfold At4 at this; rw [Nat.zero_add] at this; exact this)
                have e00 : ∀ n os, (grow (wr.drewN n) os).cell? ⟨g, (k - 1) * 4, none⟩ = some (.string (ba s0.host)) := cell_grown (a := ⟨g, (k - 1) * 4, none⟩) hg1 A0.1
                have e01 : ∀ n os, (grow (wr.drewN n) os).cell? ⟨g, (k - 1) * 4 + 1, none⟩ = some (.int .i64 s0.out) := cell_grown (a := ⟨g, (k - 1) * 4 + 1, none⟩) hg1 A0.2.1
                have e02 : ∀ n os, (grow (wr.drewN n) os).cell? ⟨g, (k - 1) * 4 + 2, none⟩ = some (.int .i64 s0.inn) := cell_grown (a := ⟨g, (k - 1) * 4 + 2, none⟩) hg1 A0.2.2.1
                have e03 : ∀ n os, (grow (wr.drewN n) os).cell? ⟨g, (k - 1) * 4 + 3, none⟩ = some (.string (ba s0.proto)) := cell_grown (a := ⟨g, (k - 1) * 4 + 3, none⟩) hg1 A0.2.2.2
                have A1 : (wr.cell? ⟨b, o + j * 4, none⟩ = some (.string (ba x.host)) ∧ wr.cell? ⟨b, o + j * 4 + 1, none⟩ = some (.int .i64 x.out) ∧ wr.cell? ⟨b, o + j * 4 + 2, none⟩ = some (.int .i64 x.inn) ∧ wr.cell? ⟨b, o + j * 4 + 3, none⟩ = some (.string (ba x.proto))) := (by have := HCA.out wr HB2.out j hjl.out; rw [HX.out] at this; exact this)
                have e10 : ∀ n os, (grow (wr.drewN n) os).cell? ⟨b, o + j * 4, none⟩ = some (.string (ba x.host)) := cell_grown (a := ⟨b, o + j * 4, none⟩) hb1 A1.1
                have e11 : ∀ n os, (grow (wr.drewN n) os).cell? ⟨b, o + j * 4 + 1, none⟩ = some (.int .i64 x.out) := cell_grown (a := ⟨b, o + j * 4 + 1, none⟩) hb1 A1.2.1
                have e12 : ∀ n os, (grow (wr.drewN n) os).cell? ⟨b, o + j * 4 + 2, none⟩ = some (.int .i64 x.inn) := cell_grown (a := ⟨b, o + j * 4 + 2, none⟩) hb1 A1.2.2.1
                have e13 : ∀ n os, (grow (wr.drewN n) os).cell? ⟨b, o + j * 4 + 3, none⟩ = some (.string (ba x.proto)) := cell_grown (a := ⟨b, o + j * 4 + 3, none⟩) hb1 A1.2.2.2
                have A2 : (wr.cell? ⟨b, o + b2 * 4, none⟩ = some (.string (ba y.host)) ∧ wr.cell? ⟨b, o + b2 * 4 + 1, none⟩ = some (.int .i64 y.out) ∧ wr.cell? ⟨b, o + b2 * 4 + 2, none⟩ = some (.int .i64 y.inn) ∧ wr.cell? ⟨b, o + b2 * 4 + 3, none⟩ = some (.string (ba y.proto))) := (by have := HCA.out wr HB2.out b2 hb2; rw [HY.out] at this; exact this)
                have e20 : ∀ n os, (grow (wr.drewN n) os).cell? ⟨b, o + b2 * 4, none⟩ = some (.string (ba y.host)) := cell_grown (a := ⟨b, o + b2 * 4, none⟩) hb1 A2.1
                have e21 : ∀ n os, (grow (wr.drewN n) os).cell? ⟨b, o + b2 * 4 + 1, none⟩ = some (.int .i64 y.out) := cell_grown (a := ⟨b, o + b2 * 4 + 1, none⟩) hb1 A2.2.1
                have e22 : ∀ n os, (grow (wr.drewN n) os).cell? ⟨b, o + b2 * 4 + 2, none⟩ = some (.int .i64 y.inn) := cell_grown (a := ⟨b, o + b2 * 4 + 2, none⟩) hb1 A2.2.2.1
                have e23 : ∀ n os, (grow (wr.drewN n) os).cell? ⟨b, o + b2 * 4 + 3, none⟩ = some (.string (ba y.proto)) := cell_grown (a := ⟨b, o + b2 * 4 + 3, none⟩) hb1 A2.2.2.2
                clear A0 A1 A2 hgt hll
                have mixed : Tryd.prog.follows .mixedOrders = true := by kernel_rfl
                go_wp2_with fail
                refine wp_region_quiet_grown (by assumption) (by kernel_rfl) ?_
                repeat (
                  (with_reducible refine wpQuiet_step (fun K hK => ?_))
                  go_simp
                  first
                    | ((with_reducible refine hK _ ?_); clear hK K)
                    | ((with_reducible apply Exists.intro); (with_reducible refine ⟨fun _ => ?_, hK _ ?_⟩); (first | (go_at_call 34; with_reducible exact Calls.grown_of (HL1.out _)) | (go_at_call 34; with_reducible exact Calls.grown_of (HL2.out _))); clear hK K)
                    | (refine hK _ ?_; clear hK K))
                (with_reducible refine wpQuiet_nil ?_)
                intro _ hw9
                obtain ⟨⟨nq, osq⟩, hw8⟩ := hw9
                subst hw8
                clear e00 e01 e02 e03 e10 e11 e12 e13 e20 e21 e22 e23
                go_wp2
                go_roundw
                case rel => exact ⟨j + 1, (b2 : Int), by omega, by go_num, rfl, Lib.hid (HBI.out.keep hb2 hjl.out (by rw [HX.out, HY.out]; exact HLL.out)), Lib.hid (below_grown HB2.out HB2.out.size _ _)⟩
                case measure => simp [intOf]; omega
          | false =>
            have HCN : Hid (¬ Ol.cand lessP l k (l[j]'hjl.out)) := Lib.hid fun h => by rw [HCP.out.1 h] at hgt; cases hgt
            have HL1 := Lib.hid (fun w9 => rless_val s0 x w9)
            rw [hgt] at HL1
            have hg1 : g < wr.heap.size := Nat.lt_of_lt_of_le hg0 HB2.out.size
            have hb1 : b < wr.heap.size := Nat.lt_of_lt_of_le H4.out (Nat.le_trans HL.out.size HB2.out.size)
            have A0 : (wr.cell? ⟨g, (k - 1) * 4, none⟩ = some (.string (ba s0.host)) ∧ wr.cell? ⟨g, (k - 1) * 4 + 1, none⟩ = some (.int .i64 s0.out) ∧ wr.cell? ⟨g, (k - 1) * 4 + 2, none⟩ = some (.int .i64 s0.inn) ∧ wr.cell? ⟨g, (k - 1) * 4 + 3, none⟩ = some (.string (ba s0.proto))) := (by have := HOUT.out wr HB2.out; unfold At4 at this; rw [Nat.zero_add] at this; exact this)
            have e00 : ∀ n os, (grow (wr.drewN n) os).cell? ⟨g, (k - 1) * 4, none⟩ = some (.string (ba s0.host)) := cell_grown (a := ⟨g, (k - 1) * 4, none⟩) hg1 A0.1
            have e01 : ∀ n os, (grow (wr.drewN n) os).cell? ⟨g, (k - 1) * 4 + 1, none⟩ = some (.int .i64 s0.out) := cell_grown (a := ⟨g, (k - 1) * 4 + 1, none⟩) hg1 A0.2.1
            have e02 : ∀ n os, (grow (wr.drewN n) os).cell? ⟨g, (k - 1) * 4 + 2, none⟩ = some (.int .i64 s0.inn) := cell_grown (a := ⟨g, (k - 1) * 4 + 2, none⟩) hg1 A0.2.2.1
            have e03 : ∀ n os, (grow (wr.drewN n) os).cell? ⟨g, (k - 1) * 4 + 3, none⟩ = some (.string (ba s0.proto)) := cell_grown (a := ⟨g, (k - 1) * 4 + 3, none⟩) hg1 A0.2.2.2
            have A1 : (wr.cell? ⟨b, o + j * 4, none⟩ = some (.string (ba x.host)) ∧ wr.cell? ⟨b, o + j * 4 + 1, none⟩ = some (.int .i64 x.out) ∧ wr.cell? ⟨b, o + j * 4 + 2, none⟩ = some (.int .i64 x.inn) ∧ wr.cell? ⟨b, o + j * 4 + 3, none⟩ = some (.string (ba x.proto))) := (by have := HCA.out wr HB2.out j hjl.out; rw [HX.out] at this; exact this)
            have e10 : ∀ n os, (grow (wr.drewN n) os).cell? ⟨b, o + j * 4, none⟩ = some (.string (ba x.host)) := cell_grown (a := ⟨b, o + j * 4, none⟩) hb1 A1.1
            have e11 : ∀ n os, (grow (wr.drewN n) os).cell? ⟨b, o + j * 4 + 1, none⟩ = some (.int .i64 x.out) := cell_grown (a := ⟨b, o + j * 4 + 1, none⟩) hb1 A1.2.1
            have e12 : ∀ n os, (grow (wr.drewN n) os).cell? ⟨b, o + j * 4 + 2, none⟩ = some (.int .i64 x.inn) := cell_grown (a := ⟨b, o + j * 4 + 2, none⟩) hb1 A1.2.2.1
            have e13 : ∀ n os, (grow (wr.drewN n) os).cell? ⟨b, o + j * 4 + 3, none⟩ = some (.string (ba x.proto)) := cell_grown (a := ⟨b, o + j * 4 + 3, none⟩) hb1 A1.2.2.2
            clear A0 A1 hgt
            have mixed : Tryd.prog.follows .mixedOrders = true := by kernel_rfl
            go_wp2_with fail
            refine wp_region_quiet_grown (by assumption) (by kernel_rfl) ?_
            repeat (
              (with_reducible refine wpQuiet_step (fun K hK => ?_))
              go_simp
              first
                | ((with_reducible refine hK _ ?_); clear hK K)
                | ((with_reducible apply Exists.intro); (with_reducible refine ⟨fun _ => ?_, hK _ ?_⟩); (first | (go_at_call 34; with_reducible exact Calls.grown_of (HL1.out _))); clear hK K)
                | (refine hK _ ?_; clear hK K))
            (with_reducible refine wpQuiet_nil ?_)
            intro _ hw9
            obtain ⟨⟨nq, osq⟩, hw8⟩ := hw9
            subst hw8
            clear e00 e01 e02 e03 e10 e11 e12 e13
            go_wp2
            go_roundw
            case rel => exact ⟨j + 1, bz, by omega, by go_num, rfl, Lib.hid (HBI.out.skip hjl.out HCN.out), Lib.hid (below_grown HB2.out HB2.out.size _ _)⟩
            case measure => simp [intOf]; omega
      · obtain rfl : j = n := by omega
        have hltz : ¬ (j : Int) < (j : Int) := by omega
        have HBJ : Hid (BestP l k l.length bz) := Lib.hid (by rw [HN.out]; exact HBI.out)
        rcases HBI.out.place with hbz | ⟨b2, hbz, hb2⟩
        · subst hbz
          have hkk : k = S.length := by rw [HSR.out]; exact HBJ.out.done_none (by rw [← HSR.out]; exact hk)
          have HKK := Lib.hid hkk
          clear hkk
          go_wp2
          go_ret
          refine ⟨_, rfl, ?_, HL.out.trans (HB2.out.mono HL.out.size)⟩
          have := owns_keepP HW.out HB2.out
          rw [List.take_of_length_le (by have := HKK.out; omega)] at this
          exact (pr_of_owns this).1
        · subst hbz
          have hn1 : decide ((b2 : Int) < 0) = false := decide_eq_false (by omega)
          have hn2 : ¬ (b2 : Int) < 0 := by omega
          rcases H3.out with ⟨e0, _⟩ | ⟨b, o, rfl, h4, h5⟩
          · exact absurd hb2 (by rw [e0]; exact Nat.not_lt_zero _)
          obtain ⟨y, hy⟩ : ∃ y, l[b2]'hb2 = y := ⟨_, rfl⟩
          have hc2 : At4 wr b o b2 y := by rw [← hy]; exact ((h5 b2 hb2).below h4 HL.out).below (Nat.lt_of_lt_of_le h4 HL.out.size) HB2.out
          obtain ⟨y0, y1, y2, y3⟩ := hc2
          clear h5
          have hb2z : (b2 : Int) < (j : Int) := by have := HN.out; omega
          have hb2n : b2 < j := by have := HN.out; omega
          obtain ⟨hks, hnext⟩ := HBJ.out.done_some (by rw [← HSR.out]; exact hk) hb2
          have hks' : Hid (k < S.length) := Lib.hid (by rw [HSR.out]; exact hks)
          have HXX : Hid (cellsP (S.take (k + 1)) = cellsP (S.take k) ++ encP y) := Lib.hid (by
            rw [List.take_succ_eq_append_getElem hks'.out, cellsP_app, ← hy, ← hnext]
            simp only [HSR.out]
            rfl)
          clear hnext hks hy
          have HO : Hid (wr.ownsRow w.heap.size 24 4 (.slice a3 k cap3) k (cellsP (S.take k))) := Lib.hid (owns_keepP HW.out HB2.out)
          have HL2 : Hid (Below w.heap.size w wr) := Lib.hid (HL.out.trans (HB2.out.mono HL.out.size))
          obtain ⟨XS, hXS⟩ : ∃ XS, XS = cellsP (S.take k) := ⟨_, rfl⟩
          have hown := HO.out
          rw [← hXS] at hown
          have HXS := Lib.hid hXS
          clear hXS
          go_wp2_with (at_builtin; refine wpList_append_own _ rfl _ _ 31 rfl w.heap.size 24 i0 zeroP 4 48 Tryd.underlying31 hi hz0 hz1 hz2 (by kernel_rfl) (by decide) _ _ _ rfl (hown.alloc _) ⟨wr.heap.size, 0, none⟩ 1 1 (encP y) rfl ?c1 ?c2 ?c3 ?c4 ?c5 ?c6 ?_)
          case c1 => rfl
          case c2 =>
            intro t u ht
            match t, ht with
            | 0, ht => injection ht with ht; rw [← ht]; simp [Addr.add]
            | 1, ht => injection ht with ht; rw [← ht]; simp [Addr.add]
            | 2, ht => injection ht with ht; rw [← ht]; simp [Addr.add]
            | 3, ht => injection ht with ht; rw [← ht]; simp [Addr.add]
          case c3 => exact encP_one y
          case c4 => unfold maxLen; omega
          case c5 => omega
          case c6 => have := HL2.out.size; simp; omega
          · intro v' w2 hown' hgrow _
            have HW2 := Lib.hid hown'
            have HG2 := Lib.hid hgrow
            clear hown' hgrow hown
            go_wp2
            go_roundg (S.length - (k + 1))
            case measure => have := hks'.out; omega
            case rel =>
              refine ⟨k + 1, hks'.out, Nat.le_refl _, Lib.hid ?_, Lib.hid ?_⟩
              · rw [HXX.out, ← HXS.out]; exact HW2.out
              · refine (HL2.out.alloc HL2.out.size _).grown HG2.out (by have := HL2.out.size; simp; omega) ?_
                intro p hp
                exact (HO.out.lt p hp).1
end Go.Proofs.YtkgfinhepbipeaaDoor
