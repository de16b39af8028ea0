/- The contract of the document's own Block. -/
import Derived.Test.YtefjdbgmakddjaaShaComp
namespace Go.Proofs.Ytefjdbgmakddjaa
open Go.RowKit
open Sh
set_option linter.unusedVariables false
theorem turn_still (x n k l : Int) (w : World) (h : tab n k l) : Calls Try.prog 44 #[.int .u32 x, .int .u64 n] w fun e w' => e = .returned (.int .u32 (rotL x k l)) ∧ w' = w :=
  (turn_any x n k l w h).mono fun e w' ⟨h1, h2⟩ => ⟨h1, h2.symm⟩
theorem infoS8 : (Try.prog.info? 31).map (·.size) = some 8 := by kernel_rfl
theorem be_sum (a b c d : UInt8) : (((a.toNat : Int) * 16777216 + (b.toNat : Int) * 65536 + (c.toNat : Int) * 256 + (d.toNat : Int)) % 4294967296) = be a b c d := by
  have h := be_w a b c d
  unfold W32 be at h
  unfold be
  omega
theorem be_sum2 (a b c d : UInt8) : (((a.toNat : Int) % 4294967296 * 16777216 + (b.toNat : Int) % 4294967296 * 65536 + (c.toNat : Int) % 4294967296 * 256 + (d.toNat : Int)) % 4294967296) = be a b c d := by
  rw [bq1, bq1, bq1]; exact be_sum a b c d
theorem ra (h p c k m s q : Int) : ((h + p + c + k + m) % 4294967296 + (s + q) % 4294967296) % 4294967296 = (h + p + c + (k + m) % 4294967296 + (s + q)) % 4294967296 := by omega
theorem rb (d h p c k m : Int) : (d + (h + p + c + k + m) % 4294967296) % 4294967296 = (d + (h + p + c + (k + m) % 4294967296)) % 4294967296 := by omega
/-- The memory of the document's own Block: the state, the result, the words. -/
structure RB (w wr : World) (v : V8) (d : Array Int) : Prop where
  r0 : wr.heap[w.heap.size]? = some (.cells (v.arr.map encU) 31 (0, 0))
  r1 : wr.heap[w.heap.size + 1]? = some (.cells ((zeros 8).map encU) 31 (0, 0))
  r2 : Arr wr (w.heap.size + 1 + 1) 49 d
  r5 : Below w.heap.size w wr
theorem RB.drew {w wr w9 : World} {v : V8} {d : Array Int} (h : RB w wr v d) (e : w9 = wr.drew) : RB w w9 v d := by
  subst e; exact ⟨h.r0, h.r1, h.r2, h.r5.drew⟩
theorem RB.drewN {w wr : World} {v : V8} {d : Array Int} (h : RB w wr v d) (n : Nat) : RB w (wr.drewN n) v d :=
  ⟨h.r0, h.r1, h.r2, h.r5.trans ((belowN _ _).mono h.r5.size)⟩
theorem RB.set {w wr : World} {v : V8} {d : Array Int} (h : RB w wr v d) (t : Nat) (x : Int) : RB w (wr.setCell ⟨w.heap.size + 1 + 1, t, none⟩ (.int .u32 x)) v (d.setIfInBounds t x) :=
  ⟨row_other h.r0 _ _ (by show w.heap.size ≠ w.heap.size + 1 + 1; omega), row_other h.r1 _ _ (by show w.heap.size + 1 ≠ w.heap.size + 1 + 1; omega), h.r2.set t x, h.r5.setCell (by show w.heap.size ≤ w.heap.size + 1 + 1; omega) _⟩
set_option maxHeartbeats 8000000 in
set_option maxRecDepth 100000 in
theorem RBlock_any (v : V8) (s : ByteArray) (kb kc : Nat) (kd : List Int) (w : World) (hv : W32 v.e) (hs : 64 ≤ s.size) (hm : s.size ≤ maxLen) (hk : kd.length = 64) (hc : 64 ≤ kc) (hkb : kb < w.heap.size)
    (hcells : ∀ j (h : j < kd.length), w.cell? ⟨kb, j, none⟩ = some (.int .u32 kd[j])) :
    Calls Try.prog 31 #[v.val, .string s, .slice (some ⟨kb, 0, none⟩) 64 kc] w fun e w' => e = .returned (blk (fun t => kd.toArray[t]!) (wd s) v).val ∧ Below w.heap.size w w' := by
  unfold V8.val
  unfold maxLen at hm
  have HC := Lib.hid hcells
  obtain ⟨K, hK⟩ : ∃ K : Nat → Int, K = fun t => kd.toArray[t]! := ⟨_, rfl⟩
  rw [← hK]
  have HK : Hid (∀ t (h : t < kd.length), K t = kd[t]) := Lib.hid fun t h => by rw [hK]; simp [getElem!_pos, h]
  have HV := Lib.hid hv
  clear hcells hK hv
  have hl : ¬ (s.size : Int) < 64 := by omega
  have HI8 := Lib.hid fun u : V8 => (show (Try.prog.info? 31).map (·.size) = some (u.arr.map encU).size by rw [size8]; exact infoS8)
  go_enter Try.func31, Try.ntmps31
  go_wp2
  go_loopw [8] (fun si wr => ∃ t : Nat, ∃ d : Array Int, t ≤ 16 ∧ si = .int .i64 (t : Int) ∧ d.size = 64 ∧ (∀ j, j < t → d[j]! = ws (wd s) j) ∧ RB w wr v d) (fun si _ => 16 - (intOf si).toNat)
  case atStart =>
    refine ⟨0, zeros 64, Nat.zero_le _, rfl, zeros_size 64, fun j hj => absurd hj (Nat.not_lt_zero _), row_alloc (row_alloc (row_new w _) _) _, ?_, ?_, (((Below.refl _ w).alloc (Nat.le_refl _) _).alloc (by simp) _).alloc (by simp; omega) _⟩
    · rw [zeros_map]; exact row_alloc (row_new1 w _ _) _
    · unfold Arr; rw [zeros_map]; exact row_new2 w _ _ _
  case round =>
    obtain ⟨t, d, ht, rfl, hd, hall, hmem⟩ := hrel
    have HM := Lib.hid hmem
    have HA := Lib.hid hall
    clear hmem hall
    by_cases hlt : t < 16
    · --PART1
      obtain ⟨p, hp⟩ : ∃ p : Nat, p = 4 * t := ⟨_, rfl⟩
      have hp4 : IntKind.i64.wrap (4 * (t : Int)) = (p : Int) := by rw [wrap_sm (by omega) (by omega)]; omega
      obtain ⟨p1, hp1⟩ : ∃ p1 : Nat, p1 = p + 1 := ⟨_, rfl⟩
      obtain ⟨p2, hp2⟩ : ∃ p2 : Nat, p2 = p + 2 := ⟨_, rfl⟩
      obtain ⟨p3, hp3⟩ : ∃ p3 : Nat, p3 = p + 3 := ⟨_, rfl⟩
      have w1 : IntKind.i64.wrap ((p : Int) + 1) = (p1 : Int) := by rw [wrap_sm (by omega) (by omega)]; omega
      have w2 : IntKind.i64.wrap ((p : Int) + 2) = (p2 : Int) := by rw [wrap_sm (by omega) (by omega)]; omega
      have w3 : IntKind.i64.wrap ((p : Int) + 3) = (p3 : Int) := by rw [wrap_sm (by omega) (by omega)]; omega
      have g0 : p < s.size := by omega
      have g1 : p1 < s.size := by omega
      have g2 : p2 < s.size := by omega
      have g3 : p3 < s.size := by omega
      have z0 : (p : Int) < (s.size : Int) := by omega
      have z1 : (p1 : Int) < (s.size : Int) := by omega
      have z2 : (p2 : Int) < (s.size : Int) := by omega
      have z3 : (p3 : Int) < (s.size : Int) := by omega
      have HX : Hid (ws (wd s) t = be s[p] s[p1] s[p2] s[p3]) := Lib.hid (by rw [ws_low _ hlt, ← gb_eq s p g0, ← gb_eq s p1 g1, ← gb_eq s p2 g2, ← gb_eq s p3 g3, hp1, hp2, hp3, hp]; rfl)
      have t64 : (t : Int) < 64 := by omega
      clear hp1 hp2 hp3 hp
      go_wp2
      refine region_tail 31 (by kernel_rfl) (by kernel_rfl) ?_
      intro w9 hw9
      simp only [List.take_succ_cons, List.take_zero, List.drop_succ_cons, List.drop_zero]
      replace HM := Lib.hid (HM.out.drew hw9)
      clear hw9
      have c1 := HM.out.r2.cell t (by omega)
      have cf := HM.out.r2.frozen t
      generalize d[t]! = y0 at c1
      repeat still_step
      refine wpStill_nil ?_
      go_wp2
      refine ⟨?_, by simp [intOf]; omega⟩
      refine ⟨t + 1, d.setIfInBounds t _, by omega, by go_num, by simp [hd], fun j hj => ?_, HM.out.set t _⟩
      by_cases e : j = t
      · subst e; rw [get_set_same _ _ _ (by omega), be_sum2, HX.out]
      · rw [get_set_other _ _ _ _ e]; exact HA.out j (by omega)
      --PART1END
    · obtain rfl : t = 16 := by omega
      obtain ⟨w0, hw0⟩ : ∃ w0, w0 = wr := ⟨_, rfl⟩
      subst hw0
      go_wp2
      go_loopw [9] (fun si wr => ∃ t : Nat, ∃ d : Array Int, 16 ≤ t ∧ t ≤ 64 ∧ si = .int .i64 (t : Int) ∧ d.size = 64 ∧ (∀ j, j < t → d[j]! = ws (wd s) j) ∧ RB w wr v d) (fun si _ => 64 - (intOf si).toNat)
      case atStart => exact ⟨16, d, Nat.le_refl _, by omega, rfl, hd, HA.out, HM.out⟩
      case round =>
        clear HA HM
        obtain ⟨t, d, ht1, ht, rfl, hd, hall, hmem⟩ := hrel
        have HM := Lib.hid hmem
        have HA := Lib.hid hall
        clear hmem hall
        by_cases hlt : t < 64
        · --PART2
          have HX : Hid (ws (wd s) t = (s1 d[t - 2]! + d[t - 7]! + s0 d[t - 15]! + d[t - 16]!) % 4294967296) := Lib.hid (by
            rw [ws_high _ ht1, HA.out (t - 2) (by omega), HA.out (t - 7) (by omega), HA.out (t - 15) (by omega), HA.out (t - 16) (by omega)])
          have k2 : IntKind.i64.wrap ((t : Int) - 2) = (t : Int) - 2 := by exact wrap_sm (by omega) (by omega)
          have k7 : IntKind.i64.wrap ((t : Int) - 7) = (t : Int) - 7 := by exact wrap_sm (by omega) (by omega)
          have k15 : IntKind.i64.wrap ((t : Int) - 15) = (t : Int) - 15 := by exact wrap_sm (by omega) (by omega)
          have k16 : IntKind.i64.wrap ((t : Int) - 16) = (t : Int) - 16 := by exact wrap_sm (by omega) (by omega)
          have n2 : ((t : Int) - 2).toNat = t - 2 := by omega
          have n7 : ((t : Int) - 7).toNat = t - 7 := by omega
          have n15 : ((t : Int) - 15).toNat = t - 15 := by omega
          have n16 : ((t : Int) - 16).toNat = t - 16 := by omega
          have p2 : (2 : Int) ≤ (t : Int) := by omega
          have q2 : (t : Int) - 2 < 64 := by omega
          have p7 : (7 : Int) ≤ (t : Int) := by omega
          have q7 : (t : Int) - 7 < 64 := by omega
          have p15 : (15 : Int) ≤ (t : Int) := by omega
          have q15 : (t : Int) - 15 < 64 := by omega
          have p16 : (16 : Int) ≤ (t : Int) := by omega
          have q16 : (t : Int) - 16 < 64 := by omega
          have t64 : (t : Int) < 64 := by omega
          obtain ⟨y2, hy2⟩ : ∃ y, d[t - 2]! = y := ⟨_, rfl⟩
          obtain ⟨y7, hy7⟩ : ∃ y, d[t - 7]! = y := ⟨_, rfl⟩
          obtain ⟨y15, hy15⟩ : ∃ y, d[t - 15]! = y := ⟨_, rfl⟩
          obtain ⟨y16, hy16⟩ : ∃ y, d[t - 16]! = y := ⟨_, rfl⟩
          have HY : Hid (d[t - 2]! = y2 ∧ d[t - 7]! = y7 ∧ d[t - 15]! = y15 ∧ d[t - 16]! = y16) := Lib.hid ⟨hy2, hy7, hy15, hy16⟩
          rw [hy2, hy7, hy15, hy16] at HX
          clear hy2 hy7 hy15 hy16
          go_wp2
          refine region_tail 17 (by kernel_rfl) (by kernel_rfl) ?_
          intro w9 hw9
          simp only [List.take_succ_cons, List.take_zero, List.drop_succ_cons, List.drop_zero]
          replace HM := Lib.hid (HM.out.drew hw9)
          clear hw9
          have c15 := HM.out.r2.cell (t - 15) (by omega)
          rw [HY.out.2.2.1] at c15
          repeat still_step
          still_call (turn_still y15 7 33554432 128 w9 (by unfold tab; simp))
          repeat still_step
          still_call (turn_still y15 18 16384 262144 w9 (by unfold tab; simp))
          repeat still_step
          refine wpStill_nil ?_
          clear c15
          go_wp2
          refine region_tail 17 (by kernel_rfl) (by kernel_rfl) ?_
          intro w8 hw8
          simp only [List.take_succ_cons, List.take_zero, List.drop_succ_cons, List.drop_zero]
          replace HM := Lib.hid (HM.out.drew hw8)
          clear hw8
          have c2 := HM.out.r2.cell (t - 2) (by omega)
          rw [HY.out.1] at c2
          repeat still_step
          still_call (turn_still y2 17 32768 131072 w8 (by unfold tab; simp))
          repeat still_step
          still_call (turn_still y2 19 8192 524288 w8 (by unfold tab; simp))
          repeat still_step
          refine wpStill_nil ?_
          clear c2
          go_wp2
          refine region_tail 15 (by kernel_rfl) (by kernel_rfl) ?_
          intro w7 hw7
          simp only [List.take_succ_cons, List.take_zero, List.drop_succ_cons, List.drop_zero]
          replace HM := Lib.hid (HM.out.drew hw7)
          clear hw7
          have c7 := HM.out.r2.cell (t - 7) (by omega)
          rw [HY.out.2.1] at c7
          have c16 := HM.out.r2.cell (t - 16) (by omega)
          rw [HY.out.2.2.2] at c16
          have c0 := HM.out.r2.cell t (by omega)
          generalize d[t]! = y0 at c0
          have cf := HM.out.r2.frozen t
          repeat still_step
          refine wpStill_nil ?_
          go_wp2
          refine ⟨?_, by simp [intOf]; omega⟩
          repeat apply Exists.intro
          refine ⟨⟨t + 1, d.setIfInBounds t _, by omega, by omega, by go_num, by simp [hd], fun j hj => ?_, HM.out.set t _⟩, rfl⟩
          by_cases e : j = t
          · subst e; rw [get_set_same _ _ _ (by omega), HX.out]; rfl
          · rw [get_set_other _ _ _ _ e]; exact HA.out j (by omega)
          --PART2END
        · obtain rfl : t = 64 := by omega
          obtain ⟨w0, hw0⟩ : ∃ w0, w0 = wr := ⟨_, rfl⟩
          subst hw0
          obtain ⟨z0, z1, z2, z3, z4, z5, z6, z7⟩ := cell8 HM.out.r0
          go_wp2
          go_quiet (fail)
          clear z0 z1 z2 z3 z4 z5 z6 z7
          replace HM := Lib.hid (HM.out.drewN nq)
          obtain ⟨w9, hw9⟩ : ∃ w9, w9 = w0.drewN nq := ⟨_, rfl⟩
          rw [← hw9] at HM ⊢
          clear hw9
          go_wp2
          go_loopw [12, 13, 14, 15, 16, 17, 18, 19, 20] (fun sa sb sc sd se sf sg sh st wr => ∃ t : Nat, ∃ u : V8, t ≤ 64 ∧ st = .int .i64 (t : Int) ∧ u = rs K (wd s) v t ∧ sa = .int .u32 u.a ∧ sb = .int .u32 u.b ∧ sc = .int .u32 u.c ∧ sd = .int .u32 u.d ∧ se = .int .u32 u.e ∧ sf = .int .u32 u.f ∧ sg = .int .u32 u.g ∧ sh = .int .u32 u.h ∧ RB w wr v d) (fun _ _ _ _ _ _ _ _ st _ => 64 - (intOf st).toNat)
          case atStart => exact ⟨0, v, Nat.zero_le _, rfl, rfl, rfl, rfl, rfl, rfl, rfl, rfl, rfl, rfl, HM.out⟩
          case round =>
            clear HM
            obtain ⟨t, u, ht, rfl, hu, rfl, rfl, rfl, rfl, rfl, rfl, rfl, rfl, hmem⟩ := hrel
            have HM := Lib.hid hmem
            clear hmem
            by_cases hlt : t < 64
            · --PART3
              have HE : W32 u.e := by rw [hu]; exact rs_e HV.out t
              have HX : Hid (rs K (wd s) v (t + 1) = rnd u ((K t + ws (wd s) t) % 4294967296)) := Lib.hid (by rw [hu]; rfl)
              have ck : wr.cell? ⟨kb, t, none⟩ = some (.int .u32 (K t)) := by
                rw [HK.out t (by omega)]; exact (HM.out.r5.cell (p := ⟨kb, t, none⟩) hkb).trans (HC.out t (by omega))
              have cw := HM.out.r2.cell t (by omega)
              rw [HA.out t hlt] at cw
              obtain ⟨yk, hyk⟩ : ∃ yk, K t = yk := ⟨_, rfl⟩
              obtain ⟨yw, hyw⟩ : ∃ yw, ws (wd s) t = yw := ⟨_, rfl⟩
              rw [hyk] at ck HX
              rw [hyw] at cw HX
              clear hyk hyw hu
              obtain ⟨a, b, c, dd, e, f, g, hh⟩ := u
              have he : W32 e := HE
              have hn1 : IntKind.u32.wrap (4294967295 - e) = 4294967295 - e := by rw [Sh.wrap32]; have := he.1; have := he.2; omega
              have hn2 : (4294967295 - e) % 4294967296 = 4294967295 - e := by have := he.1; have := he.2; omega
              clear HE he
              have t64 : (t : Int) < 64 := by omega
              show _
              dsimp only
              go_wp2_with fail
              refine (turn_any e 6 67108864 64 _ (by unfold tab; simp)).mono ?_
              rintro ee wq ⟨rfl, rfl⟩
              go_wp2_with fail
              refine (turn_any e 11 2097152 2048 _ (by unfold tab; simp)).mono ?_
              rintro ee wq ⟨rfl, rfl⟩
              go_wp2_with fail
              refine (turn_any e 25 128 33554432 _ (by unfold tab; simp)).mono ?_
              rintro ee wq ⟨rfl, rfl⟩
              go_wp2_with fail
              go_quiet (fail)
              clear ck cw
              replace HM := Lib.hid (HM.out.drewN nq)
              obtain ⟨w8, hw8⟩ : ∃ w8, w8 = wr.drewN nq := ⟨_, rfl⟩
              rw [← hw8] at HM ⊢
              clear hw8
              go_wp2_with fail
              refine (turn_any a 2 1073741824 4 _ (by unfold tab; simp)).mono ?_
              rintro ee wq ⟨rfl, rfl⟩
              go_wp2_with fail
              refine (turn_any a 13 524288 8192 _ (by unfold tab; simp)).mono ?_
              rintro ee wq ⟨rfl, rfl⟩
              go_wp2_with fail
              refine (turn_any a 22 1024 4194304 _ (by unfold tab; simp)).mono ?_
              rintro ee wq ⟨rfl, rfl⟩
              go_wp2
              refine ⟨?_, by simp [intOf]; omega⟩
              repeat apply Exists.intro
              refine ⟨⟨t + 1, rnd ⟨a, b, c, dd, e, f, g, hh⟩ ((yk + yw) % 4294967296), by omega, by go_num, HX.out.symm, ?_, rfl, rfl, rfl, ?_, rfl, rfl, rfl, HM.out⟩, rfl⟩
              · exact congrArg (Value.int .u32) (ra hh (S1 e) (ch e f g) yk yw (S0 a) (maj a b c))
              · exact congrArg (Value.int .u32) (rb dd hh (S1 e) (ch e f g) yk yw)
              --PART3END
            · obtain rfl : t = 64 := by omega
              have HF : Hid (blk K (wd s) v = fin v u) := Lib.hid (by rw [hu]; rfl)
              have HU : Hid (Value.agg #[.int .u32 ((v.a + u.a) % 4294967296), .int .u32 ((v.b + u.b) % 4294967296), .int .u32 ((v.c + u.c) % 4294967296), .int .u32 ((v.d + u.d) % 4294967296), .int .u32 ((v.e + u.e) % 4294967296), .int .u32 ((v.f + u.f) % 4294967296), .int .u32 ((v.g + u.g) % 4294967296), .int .u32 ((v.h + u.h) % 4294967296)] = .agg ((fin v u).arr.map encU)) := Lib.hid (congrArg Value.agg (V8.map (fin v u)).symm)
              obtain ⟨z0, z1, z2, z3, z4, z5, z6, z7⟩ := cell8 HM.out.r0
              clear hu
              go_wp2_with (refine wpList_store_row rfl 31 _ _ rfl (w.heap.size + 1) ((fin v u).arr.map encU) rfl HU.out 31 _ HM.out.r1 (HI8.out _) ?hs2 (cells_one _) ?_; rotate_left)
              case hs2 => rw [size8, Array.size_map]; exact zeros_size 8
              all_goals
                refine bodyPost_ret (results_cell_row rfl _ _ (w.heap.size + 1) 31 ((fin v u).arr.map encU) (0, 0) (.array 8 25) rfl (setRow_heap _ _ _ _ _ _ HM.out.r1) Try.underlying31 rfl (HI8.out _)) rfl ?_
                exact ⟨by rw [HF.out], HM.out.r5.setRow (by omega) _⟩
end Go.Proofs.Ytefjdbgmakddjaa
