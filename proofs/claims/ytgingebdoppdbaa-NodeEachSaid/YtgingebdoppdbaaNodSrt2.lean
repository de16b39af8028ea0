/- The contract of the program's sorted and Sorted. The contract of the program's Sorted. -/
import Derived.Test.YtgingebdoppdbaaNodSrt
import Derived.Test.YtgingebdoppdbaaNodForm
namespace Go.Proofs.Ytgingebdoppdbaa
open Go.RowKit Go.Sort
open Nw N8 Go.ChangeShapes Go.WideShapes
set_option linter.unusedVariables false
def SortA (S : Nat → Prop) (d : Nd) (w : World) (e : Ending) (w' : World) : Prop :=
  ∃ r0 r1 r2 r3, e = .returned (.agg #[r0, r1, r2, r3]) ∧ Below w.heap.size w w' ∧ NdC (New S w w') w' (sortT d) r0 r1 r2 r3
def SortOf (S : Nat → Prop) (N : Nat) : Prop := ∀ (d : Nd), cntT d ≤ N → Fine d → cntT d ≤ 100000 → ∀ (c0 c1 c2 c3 : Value) (w : World), (∀ b, S b → b < w.heap.size) → NdC S w d c0 c1 c2 c3 →
    Calls Try.prog 47 #[.agg #[c0, c1, c2, c3]] w (SortA S d w)
theorem fine_kids {k : Int} {t : L8} {ks : List L8} {ds : List Nd} (h : Fine (.mk k t ks ds)) : ∀ d ∈ ds, Fine d := by
  cases h with
  | mk _ _ _ _ hdd => exact hdd
set_option maxRecDepth 100000 in
set_option maxHeartbeats 8000000 in
theorem sorted_any (S : Nat → Prop) (N : Nat) : SortOf S N := by
  induction N with
  | zero => intro d h; have := cntT_pos d; omega
  | succ N ih =>
    intro d hN hf hbig c0 c1 c2 c3 w hS hd
    cases d with
    | mk k t ks ds =>
      have hB := BxS.make hd hS
      have hdA := hd.all hS
      have hlen := cntL_len ds
      obtain ⟨rfl, rfl, -, A, cap, rfl, hcap, hcm, -, -⟩ := hdA.parts
      obtain ⟨k9, s9, a, m, c9, A9, m9, q9, -, -, rfl, h99⟩ := hdA.shape
      rw [cntT] at hN hbig
      have hkn : ks.length ≤ 100000 := by
        by_cases hk : k = 3
        · have := fine_keys hf hk
          have e1 : ks.length = ds.length := this
          omega
        · have : ks = [] := by
            cases hf with
            | mk h0 h3 hf hk' hdd =>
              unfold formB at hf
              cases ks with
              | nil => rfl
              | cons x l => simp [hk] at hf
          rw [this]; exact Nat.zero_le _
      obtain ⟨T, hT⟩ : ∃ T, ba t = T := ⟨_, rfl⟩
      have HT := Lib.hid hT
      rw [hT] at hB hd ⊢
      obtain ⟨n, hn⟩ : ∃ n, ds.length = n := ⟨_, rfl⟩
      have HN := Lib.hid hn
      have hm : m = ks.length := by
        have h2 := hB.2.2.2
        rw [NdC] at h2
        obtain ⟨-, -, ⟨a', cap', h3, -⟩, -⟩ := h2
        injection h3
      have HM := Lib.hid hm
      rw [hn] at hB hcap hd ⊢
      have hso := Sorted_own (.slice a m c9) ks _ (hB.2.2.2.rd fun b hb => Nat.lt_of_lt_of_le (hS b hb) hB.1.size) (by omega)
      have HB := Lib.hid hB
      have HS := Lib.hid hS
      have HF := Lib.hid hf
      have HCN := Lib.hid (And.intro (show cntL ds ≤ N by omega) (show cntL ds ≤ 99999 by omega))
      have HIH := Lib.hid ih
      have hn63 : n ≤ 100000 := by omega
      obtain ⟨x0, x1, x2, x3⟩ := HB.out.2.1.cells
      unfold maxLen at hcm
      clear hB hdA hlen h99 hT hn hm hS hd hf hN hbig ih hkn
      go_enter Try.func47, Try.ntmps47
      go_wp2_with fail
      refine hso.mono ?_
      rintro e w1 ⟨kv, rfl, hok, hb1⟩
      have HB1 := Lib.hid (HB.out.go HS.out hb1)
      have HOK := Lib.hid (owns_low hok (bxs_size HB.out))
      clear hok hb1 hso x0 x1 x2 x3 HB
      obtain ⟨x0, x1, x2, x3⟩ := HB1.out.2.1.cells
      have hcl := CloneN_any S (.slice A n cap) ds w1 (fun b hb => Nat.lt_of_lt_of_le (HS.out b hb) HB1.out.1.size) HB1.out.2.2.2.kdS (by rw [HN.out]; exact hn63)
      go_wp2_with fail
      refine hcl.mono ?_
      rintro e w2 ⟨v, rfl, ⟨qs, hko⟩, hb2⟩
      have HL : Hid (LT S w w2 (.mk k t ks ds) (.int .i64 k) (.string T) (.slice a m c9) (.slice A n cap) kv (sortL ks) v ds) := Lib.hid ⟨HS.out, HB1.out.go HS.out hb2, owns_below HOK.out hb2, qs, (hko.low (bxs_size HB1.out)).keep (fun b hb => ⟨.inl hb, rfl⟩) fun _ _ => rfl⟩
      clear hcl hko hb2 HB1 HOK x0 x1 x2 x3
      obtain ⟨x0, x1, x2, x3⟩ := HL.out.2.1.2.1.cells
      go_wp2
      go_loopw [5, 6, 7, 17] (fun s5 s6 s7 si wr => ∃ (j : Nat) (M : List Nd), j ≤ n ∧ si = .int .i64 (j : Int) ∧ Hid (LT S w wr (.mk k t ks ds) (.int .i64 k) (.string T) (.slice a m c9) (.slice A n cap) kv (sortL ks) v M) ∧ Hid (SM (atM k ks (sortL ks)) ds M j)) (fun _ _ _ si _ => n - (intOf si).toNat)
      case atStart => exact ⟨0, ds, Nat.zero_le _, rfl, HL, Lib.hid (SM.start _ _)⟩
      case round =>
        clear HL x0 x1 x2 x3
        obtain ⟨j, M, hj, rfl, HL, HM9⟩ := hrel
        by_cases hlt : j < n
        · have hjl : j < ds.length := by rw [HN.out]; exact hlt
          have hjz : (j : Int) < (n : Int) := by omega
          obtain ⟨y8, x1, y9, x3⟩ := HL.out.2.1.2.1.cells
          obtain ⟨b, o, e0, e1, e2, e3, rfl, hb, y0, y1, y2, y3, hnd⟩ := HL.out.2.1.2.2.2.kdS.kid j hjl
          obtain ⟨k1, s1, a1, n1, q1, A1, m1, r1, rfl, rfl, rfl, rfl⟩ := NdC.cellsOk hnd
          have hal : Below wr.heap.size wr (wr.alloc (.cells #[.int .i64 k1, .string s1, .slice a1 n1 q1, .slice A1 m1 r1] 25)) := (Below.refl _ _).alloc (Nat.le_refl _) _
          have HL1 := Lib.hid (HL.out.go hal)
          have HR1 := Lib.hid (Row4.make wr 25 (.int .i64 k1) (.string s1) (.slice a1 n1 q1) (.slice A1 m1 r1))
          have HND := Lib.hid (hnd.old (fun b hb => Nat.lt_of_lt_of_le (HS.out b hb) HL.out.2.1.1.size) hal)
          have HHL : Hid (∀ h c v', v' = Value.slice (some ⟨h, 0, none⟩) n c → v' = v → h < wr.heap.size) := Lib.hid fun h c v' e1 e2 => (HL.out.2.2.2.choose_spec.1.lt h (by rw [← e2, e1]; rfl)).2
          have HSZ := Lib.hid (And.intro (bxs_size HL.out.2.1) hal.size)
          obtain ⟨x0, -, x2, -⟩ := HL1.out.2.1.2.1.cells
          clear hnd hal y8 y9
          by_cases hk : k = 3
          · subst hk
            have hmn : m = n := by
              rw [HM.out, ← HN.out]
              exact fine_keys HF.out rfl
            have HKR := Lib.hid (NdC.rd HL1.out.2.1.2.2.2 fun b hb => Nat.lt_of_lt_of_le (HS.out b hb) HL1.out.2.1.1.size)
            have hjk : j < ks.length := by rw [← HM.out, hmn]; exact hlt
            obtain ⟨kb, ko, rfl, -, w0⟩ := rd_at HKR.out j hjk
            obtain ⟨X, hX⟩ : ∃ X, ba (ks[j]'hjk) = X := ⟨_, rfl⟩
            have HX : Hid (X.data.toList = ks[j]'hjk) := Lib.hid (by rw [← hX, ba_data])
            rw [hX] at w0
            have hbs := Search_at kv (sortL ks) (sortL_asc ks) (by have := sortL_le ks; have := HM.out; omega) X (by rw [HX.out]; exact mem_sortL.2 (List.getElem_mem hjk)) _ (rd_of_owns HL1.out.2.2.1)
            have hjm : (j : Int) < (m : Int) := by omega
            have HMN := Lib.hid hmn
            clear hX HKR hmn
            go_wp2_with fail
            refine hbs.mono ?_
            rintro e W2 ⟨p, hp, hpe, rfl, qq, hw2⟩
            have hb9 := below_drewN (wr.alloc (.cells #[.int .i64 k1, .string s1, .slice a1 n1 q1, .slice A1 m1 r1] 25)) qq
            rw [← hw2] at hb9
            have HA : Hid (atM 3 ks (sortL ks) j p) := Lib.hid (by unfold atM; rw [if_pos rfl]; exact ⟨hjk, hp, by rw [hpe, HX.out]⟩)
            have hpn : p < n := by
              have h1 : (sortL ks).length = ks.length := by
                have := HF.out
                cases this with
                | mk h0 h3 hf hk hdd => exact (hk rfl).2
              have h2 := HM.out
              have h4 := HMN.out
              omega
            have HL2 := Lib.hid (HL1.out.go hb9)
            have HR2 := Lib.hid (HR1.out.below hb9 HR1.out.lt)
            have HN2 := Lib.hid (HND.out.old (fun b hb => by have := HL1.out.1 b hb; have := bxs_size HL1.out.2.1; omega) hb9)
            have HS2 := Lib.hid (And.intro HSZ.out.1 (Nat.le_trans HSZ.out.2 hb9.size))
            clear hbs hw2 hb9 hpe hp HX w0 HL1 HR1 HND HL HSZ x0 x2 x1 x3 y0 y1 y2 y3
            obtain ⟨b0, b1, b2, b3⟩ := HR2.out.cells
            have hck : cntT (ds[j]'hjl) ≤ cntL ds := cntL_mem (List.getElem_mem hjl)
            have hR := HIH.out (ds[j]'hjl) (Nat.le_trans hck HCN.out.1) (fine_kids HF.out _ (List.getElem_mem hjl)) (by have := HCN.out.2; omega) _ _ _ _ W2 (fun b hb => by have := HS.out b hb; have := HS2.out; omega) HN2.out
            clear hck
            go_wp2_with fail
            refine hR.mono ?_
            rintro e w3 ⟨r0, r1', r2, r3, rfl, hb3, hrn⟩
            obtain ⟨k2, s2, a2, n2, q2, A2, m2, r2', rfl, rfl, rfl, rfl⟩ := NdC.cellsOk hrn
            have HL3 := Lib.hid (HL2.out.go hb3)
            have hhl : M.length = n := by rw [HM9.out.1, HN.out]
            have hpM : p < M.length := by rw [hhl]; exact hpn
            obtain ⟨h, cv, hv, hBh, hhs, hcv, hcmv⟩ := HL3.out.2.2.2.choose_spec.form (Nat.lt_of_le_of_lt (Nat.zero_le _) hpM)
            rw [hhl] at hv hcv
            subst hv
            obtain ⟨⟨f0, f1, f2, f3, g0, g1, g2, g3, -⟩, fz0, fz1, fz2, fz3⟩ := HL3.out.2.2.2.choose_spec.at_ hhl p hpM
            have hhw : h < wr.heap.size := HHL.out h cv _ rfl rfl
            have HLP := Lib.hid (HL3.out.put hhl p hpM (sortT (ds[j]'hjl)) ⟨.int .i64 k2, .string s2, .slice a2 n2 q2, .slice A2 m2 r2'⟩ W2 (Nat.lt_of_lt_of_le hhw HS2.out.2) (Nat.le_trans HS2.out.1 HS2.out.2) hrn)
            have HSP := Lib.hid (SM.next HF.out HM9.out hjl HA.out)
            have hpz : (p : Int) < (n : Int) := by omega
            have gpz : (0 : Int) ≤ (p : Int) := by omega
            clear hrn hb3 hhl hpM hBh hhs hcmv hhw HL3 HL2 HR2 HN2 hR HHL
            go_wp2_with fail
            go_roundw
            case measure => simp [intOf]; omega
            case rel =>
              exact ⟨j + 1, _, by omega, by go_num, HLP, HSP⟩
          · have p1 : (k == 3) = false := by simpa using hk
            have HA : Hid (atM k ks (sortL ks) j j) := Lib.hid (by unfold atM; rw [if_neg hk])
            have HL2 := HL1
            have HR2 := HR1
            have HN2 := HND
            have HS2 := HSZ
            clear HL1 HR1 HND HL HSZ hk
            obtain ⟨W2, hW2⟩ : ∃ W2, W2 = wr.alloc (.cells #[.int .i64 k1, .string s1, .slice a1 n1 q1, .slice A1 m1 r1] 25) := ⟨_, rfl⟩
            rw [← hW2] at HL2 HR2 HN2 HS2
            go_upto_region 9 with fail
            rw [← hW2]
            clear hW2 x0 x2 x1 x3 y0 y1 y2 y3
            obtain ⟨b0, b1, b2, b3⟩ := HR2.out.cells
            have hck : cntT (ds[j]'hjl) ≤ cntL ds := cntL_mem (List.getElem_mem hjl)
            have hR := HIH.out (ds[j]'hjl) (Nat.le_trans hck HCN.out.1) (fine_kids HF.out _ (List.getElem_mem hjl)) (by have := HCN.out.2; omega) _ _ _ _ W2 (fun b hb => by have := HS.out b hb; have := HS2.out; omega) HN2.out
            clear hck
            go_wp2_with fail
            refine hR.mono ?_
            rintro e w3 ⟨r0, r1', r2, r3, rfl, hb3, hrn⟩
            obtain ⟨k2, s2, a2, n2, q2, A2, m2, r2', rfl, rfl, rfl, rfl⟩ := NdC.cellsOk hrn
            have HL3 := Lib.hid (HL2.out.go hb3)
            have hhl : M.length = n := by rw [HM9.out.1, HN.out]
            have hpM : j < M.length := by rw [hhl]; exact hlt
            obtain ⟨h, cv, hv, hBh, hhs, hcv, hcmv⟩ := HL3.out.2.2.2.choose_spec.form (Nat.lt_of_le_of_lt (Nat.zero_le _) hpM)
            rw [hhl] at hv hcv
            subst hv
            obtain ⟨⟨f0, f1, f2, f3, g0, g1, g2, g3, -⟩, fz0, fz1, fz2, fz3⟩ := HL3.out.2.2.2.choose_spec.at_ hhl j hpM
            have hhw : h < wr.heap.size := HHL.out h cv _ rfl rfl
            have HLP := Lib.hid (HL3.out.put hhl j hpM (sortT (ds[j]'hjl)) ⟨.int .i64 k2, .string s2, .slice a2 n2 q2, .slice A2 m2 r2'⟩ W2 (Nat.lt_of_lt_of_le hhw HS2.out.2) (Nat.le_trans HS2.out.1 HS2.out.2) hrn)
            have HSP := Lib.hid (SM.next HF.out HM9.out hjl HA.out)
            have hpz : (j : Int) < (n : Int) := by omega
            have gpz : (0 : Int) ≤ (j : Int) := by omega
            clear hrn hb3 hhl hpM hBh hhs hcmv hhw HL3 HL2 HR2 HN2 hR HHL
            go_wp2_with fail
            go_roundw
            case measure => simp [intOf]; omega
            case rel => exact ⟨j + 1, _, by omega, by go_num, HLP, HSP⟩
        · obtain rfl : j = n := by omega
          obtain ⟨x0, x1, x2, x3⟩ := HL.out.2.1.2.1.cells
          have HW : Hid (sortT (.mk k t ks ds) = .mk k t (sortL ks) M) := Lib.hid (SM.done HF.out (by rw [HN.out]; exact HM9.out))
          have HD := Lib.hid HL.out.done
          rw [HT.out] at HD
          obtain ⟨z0, z1, z2, z3⟩ := HL.out.2.1.2.2.1.cells
          obtain ⟨fz0, fz1, fz2, fz3⟩ := HL.out.2.1.2.2.1.frozen
          obtain ⟨av, nv, cv, rfl⟩ : ∃ av nv cv, v = .slice av nv cv := by
            obtain ⟨A', cap', h1, -⟩ := HL.out.2.2.2.choose_spec.kdS (T := fun _ => True) (fun _ _ => trivial) (fun _ _ => trivial)
            exact ⟨_, _, _, h1⟩
          obtain ⟨ka, kc, rfl, -, -⟩ := rd_slice (rd_of_owns HL.out.2.2.1)
          generalize (sortL ks).length = mk at *
          go_wp2
          refine bodyPost_ret (v := .agg #[.int .i64 k, .string T, .slice ka mk kc, .slice av nv cv]) (by simp [results, Try.results47, go_sem, z0, z1, z2, z3]) rfl ⟨_, _, _, _, rfl, HD.out.1, by rw [HW.out]; exact HD.out.2⟩
end Go.Proofs.Ytgingebdoppdbaa
namespace Go.Proofs.Ytgingebdoppdbaa
open Go.RowKit Go.Sort
open Nw N8 Go.ChangeShapes Go.WideShapes
set_option linter.unusedVariables false
set_option maxRecDepth 100000 in
set_option maxHeartbeats 8000000 in
theorem SortedN_any (d : Nd) (hf : Fine d) (hc : cntT d ≤ 65536) (c0 c1 c2 c3 : Value) (w : World) (hd : NdW w d c0 c1 c2 c3) :
    Calls Try.prog 27 #[.agg #[c0, c1, c2, c3]] w (GivesN (sortT d) w) := by
  have hB := BxS.make (S := (· < w.heap.size)) hd fun b hb => hb
  obtain ⟨k, s, a, n, q, A, m, r, rfl, rfl, rfl, rfl⟩ := NdC.cellsOk hd
  have hw := isWalkable_any d hf hc _ _ _ _ _ (hB.all fun b hb => hb)
  have HB := Lib.hid hB
  have HSO := Lib.hid (fun W (hW : BxS (· < w.heap.size) w W d (.int .i64 k) (.string s) (.slice a n q) (.slice A m r)) => sorted_any (· < w.heap.size) (cntT d) d (Nat.le_refl _) hf (by omega) _ _ _ _ W (fun b hb => by have := bxs_size hW; have : b < w.heap.size := hb; omega) hW.2.2.2)
  obtain ⟨x0, x1, x2, x3⟩ := HB.out.2.1.cells
  clear hB hd hf hc
  go_enter Try.func27, Try.ntmps27
  go_wp2_with fail
  refine hw.mono ?_
  rintro e w2 ⟨rfl, hb2⟩
  have HB2 := Lib.hid (HB.out.go (fun b hb => hb) hb2)
  clear hw hb2 x0 x1 x2 x3 HB
  obtain ⟨x0, x1, x2, x3⟩ := HB2.out.2.1.cells
  have hso := HSO.out w2 HB2.out
  go_wp2_with fail
  refine hso.mono ?_
  rintro e w3 ⟨r0, r1, r2, r3, rfl, hb3, hrn⟩
  obtain ⟨k2, s2, a2, n2, q2, A2, m2, r2', rfl, rfl, rfl, rfl⟩ := NdC.cellsOk hrn
  have HB3 := Lib.hid (HB2.out.go (fun b hb => hb) hb3)
  have HSZ := Lib.hid (And.intro (bxs_size HB2.out) hb3.size)
  have HRN := Lib.hid hrn
  obtain ⟨z0, z1, z2, z3⟩ := HB3.out.2.2.1.cells
  obtain ⟨f0, f1, f2, f3⟩ := HB3.out.2.2.1.frozen
  clear hb3 hrn hso HSO
  go_wp2
  have hbb : Below (w.heap.size + 1) w3 (put4 w3 (w.heap.size + 1) (.int .i64 k2) (.string s2) (.slice a2 n2 q2) (.slice A2 m2 r2')) := below_put4 (Below.refl _ _) (Nat.le_refl _) _ _ _ _
  refine bodyPost_ret (v := .agg #[.int .i64 k2, .string s2, .slice a2 n2 q2, .slice A2 m2 r2']) (by simp [results, Try.results27, go_sem, z0, z1, z2, z3]) rfl ⟨_, _, _, _, rfl, NdC.keep (fun b hb => ?_) _ HRN.out, HB3.out.1.trans (hbb.mono (by omega))⟩
  have hs := HSZ.out
  show b < (put4 w3 (w.heap.size + 1) (.int .i64 k2) (.string s2) (.slice a2 n2 q2) (.slice A2 m2 r2')).heap.size ∧ (put4 w3 (w.heap.size + 1) (.int .i64 k2) (.string s2) (.slice a2 n2 q2) (.slice A2 m2 r2')).heap[b]? = _
  rw [put4_size]
  rcases hb with hb | ⟨b1, b2⟩
  · have hb' : b < w.heap.size := hb
    exact ⟨by omega, put4_oth b (by omega) _ _ _ _⟩
  · exact ⟨b2, put4_oth b (by omega) _ _ _ _⟩
end Go.Proofs.Ytgingebdoppdbaa
