/- The contracts of the program's Map at valid maps, and of awake. -/
import Derived.Test.YtgingebdoppdbaaNodForm
import Derived.Test.YtgingebdoppdbaaRefWith0
namespace Go.Proofs.Ytgingebdoppdbaa
open Go.RowKit Go.Sort
open Nw N8 Go.ChangeShapes Go.WideShapes
set_option linter.unusedVariables false
theorem kd_one {w : World} {d : Nd} {a b c e : Value} (h : NdW w d a b c e) : Kd (w.alloc (.cells #[a, b, c, e] 25)) (.slice (some ⟨w.heap.size, 0, none⟩) 1 1) [d] := by
  have hal : Below w.heap.size w (w.alloc (.cells #[a, b, c, e] 25)) := (Below.refl _ _).alloc (Nat.le_refl _) _
  have ho : KO (· < w.heap.size) w.heap.size (w.alloc (.cells #[a, b, c, e] 25)) (.slice (some ⟨w.heap.size, 0, none⟩) 1 1) [⟨a, b, c, e⟩] [d] :=
    ⟨World.ownsRow_lit w #[a, b, c, e] 1 (Nat.le_refl _) (by unfold maxLen; omega) rfl, rfl, fun j hj g => by
      have h0 : j = 0 := by simpa using hj
      subst h0
      exact NdC.keep (fun b hs => ⟨hs, hal.block b hs⟩) d h⟩
  exact ho.kd fun b hb => Nat.lt_of_lt_of_le hb hal.size
theorem kd_two {w : World} {d d' : Nd} {a b c e a' b' c' e' : Value} (h : NdW w d a b c e) (h' : NdW w d' a' b' c' e') : Kd (w.alloc (.cells #[a, b, c, e, a', b', c', e'] 25)) (.slice (some ⟨w.heap.size, 0, none⟩) 2 2) [d, d'] := by
  have hal : Below w.heap.size w (w.alloc (.cells #[a, b, c, e, a', b', c', e'] 25)) := (Below.refl _ _).alloc (Nat.le_refl _) _
  have ho : KO (· < w.heap.size) w.heap.size (w.alloc (.cells #[a, b, c, e, a', b', c', e'] 25)) (.slice (some ⟨w.heap.size, 0, none⟩) 2 2) [⟨a, b, c, e⟩, ⟨a', b', c', e'⟩] [d, d'] :=
    ⟨World.ownsRow_lit w #[a, b, c, e, a', b', c', e'] 2 (Nat.le_refl _) (by unfold maxLen; omega) rfl, rfl, fun j hj g => by
      match j, hj with
      | 0, _ => exact NdC.keep (fun b hs => ⟨hs, hal.block b hs⟩) d h
      | 1, _ => exact NdC.keep (fun b hs => ⟨hs, hal.block b hs⟩) d' h'⟩
  exact ho.kd fun b hb => Nat.lt_of_lt_of_le hb hal.size
theorem rd_one (w : World) (x : ByteArray) : Rd (w.alloc (.cells #[.string x] 9)) (.slice (some ⟨w.heap.size, 0, none⟩) 1 1) [x.data.toList] := by
  have := World.ownsRow_lit (base := 0) (e := 9) (size := 1) w #[.string x] 1 (Nat.zero_le _) (by unfold maxLen; omega) rfl
  refine rd_of_owns (base := 0) (n := 1) (e := 9) ?_
  have e : [x.data.toList].map encStr = (#[Value.string x] : Array Value).toList := by show [encStr x.data.toList] = _; rw [encStr_ba, ba_of]
  rw [e]; exact this
theorem rd_three (w : World) (x y z : ByteArray) : Rd (w.alloc (.cells #[.string x, .string y, .string z] 9)) (.slice (some ⟨w.heap.size, 0, none⟩) 3 3) [x.data.toList, y.data.toList, z.data.toList] := by
  have := World.ownsRow_lit (base := 0) (e := 9) (size := 1) w #[.string x, .string y, .string z] 3 (Nat.zero_le _) (by unfold maxLen; omega) rfl
  refine rd_of_owns (base := 0) (n := 3) (e := 9) ?_
  have e : [x.data.toList, y.data.toList, z.data.toList].map encStr = (#[Value.string x, Value.string y, Value.string z] : Array Value).toList := by
    show [encStr x.data.toList, encStr y.data.toList, encStr z.data.toList] = _
    rw [encStr_ba, ba_of, encStr_ba, ba_of, encStr_ba, ba_of]
  rw [e]; exact this
theorem Kd.old {w w' : World} {v : Value} {ds : List Nd} (h : Kd w v ds) (hb : Below w.heap.size w w') : KdS (· < w.heap.size) w' v ds := by
  obtain ⟨A, cap, h1, h2, h3, h4, h5⟩ := h
  exact ⟨A, cap, h1, h2, h3, h4, NdK.keep (fun b hlt => ⟨hlt, hb.block b hlt⟩) ds h5⟩
set_option maxRecDepth 100000 in
set_option maxHeartbeats 4000000 in
theorem Map_any (vk vd : Value) (ks : List L8) (ds : List Nd) (hf : Fine (.mk 3 [] ks ds)) (hc : cntT (.mk 3 [] ks ds) ≤ 2000) (hdp : depT (.mk 3 [] ks ds) ≤ 12) (w : World) (hk : Rd w vk ks) (hd : Kd w vd ds) :
    Calls Try.prog 31 #[vk, vd] w (GivesN (.mk 3 [] ks ds) w) := by
  have hal : Below w.heap.size w (w.alloc (.cells #[.int .i64 0, .string ⟨#[]⟩, .slice none 0 0, .slice none 0 0] 25)) := (Below.refl _ _).alloc (Nat.le_refl _) _
  have HAL := Lib.hid hal
  have HR := Lib.hid (Row4.make w 25 (.int .i64 0) (.string ⟨#[]⟩) (.slice none 0 0) (.slice none 0 0))
  have hkc := kids_cnt (.mk 3 [] ks ds)
  have hdl : ds.length ≤ 2000 := Nat.le_trans hkc hc
  have hkl : ks.length = ds.length := fine_keys hf rfl
  have HRT := Lib.hid (fun W hW => Right_any (.mk 3 [] ks ds) hf hc hdp (.int .i64 3) (.string ⟨#[]⟩) vk vd W hW)
  have HK := Lib.hid hk
  have HD := Lib.hid hd
  have HCS := Lib.hid (fun W hW => CloneS_any vk ks W hW (by omega))
  have HCN := Lib.hid (fun W hS hW => CloneN_any (· < w.heap.size) vd ds W hS hW (by omega))
  obtain ⟨a, kcap, rfl, -, -⟩ := rd_slice hk
  obtain ⟨A, cap, rfl, -⟩ := hd.shape
  clear hk hd hf hc hdp hkc hkl hdl hal
  generalize hW0 : w.alloc (.cells #[.int .i64 0, .string ⟨#[]⟩, .slice none 0 0, .slice none 0 0] 25) = W0 at *
  go_enter Try.func31, Try.ntmps31
  go_wp2_with fail
  refine (HRT.out _ (ndw_map (HK.out.below HAL.out) (HD.out.below HAL.out))).mono ?_
  rintro e w1 ⟨rfl, hb1⟩
  have HB1 := Lib.hid (HAL.out.trans (hb1.mono HAL.out.size))
  have HR1 := Lib.hid (HR.out.below hb1 HR.out.lt)
  clear hb1
  go_wp2_with fail
  refine (HCS.out _ (HK.out.below HB1.out)).mono ?_
  rintro e w2 ⟨s7, rfl, hoS, hb2⟩
  have HB2 := Lib.hid (HB1.out.trans (hb2.mono HB1.out.size))
  have HR2 := Lib.hid (HR1.out.below hb2 HR1.out.lt)
  have HOS := Lib.hid (owns_low hoS HR1.out.lt)
  clear hb2 hoS
  go_wp2_with fail
  refine (HCN.out _ (fun b hb => Nat.lt_of_lt_of_le hb HB2.out.size) (HD.out.old HB2.out)).mono ?_
  rintro e w3 ⟨s8, rfl, ⟨qs, hoN⟩, hb3⟩
  have HB3 := Lib.hid (HB2.out.trans (hb3.mono HB2.out.size))
  have HR3 := Lib.hid (HR2.out.below hb3 HR2.out.lt)
  have HOS3 := Lib.hid (owns_below HOS.out hb3)
  have hoN2 := hoN.low HR2.out.lt
  obtain ⟨ha, hcp, rfl⟩ := own_shape HOS3.out
  obtain ⟨hA, hcq, rfl⟩ := own_shape hoN.1
  have HX := Lib.hid (below_put4 HB3.out (g := w.heap.size) (Nat.le_refl _) (.int .i64 3) (.string ⟨#[]⟩) (.slice ha ks.length hcp) (.slice hA ds.length hcq))
  have HND := Lib.hid (ndw_map (k := 3) (rd_of_owns (owns_put HOS3.out (g := w.heap.size) (Nat.lt_succ_self _) (.int .i64 3) (.string ⟨#[]⟩) (.slice ha ks.length hcp) (.slice hA ds.length hcq))) ((hoN2.put (g := w.heap.size) (Nat.lt_succ_self _) (fun b hb => by have : b < w.heap.size := hb; omega) (.int .i64 3) (.string ⟨#[]⟩) (.slice ha ks.length hcp) (.slice hA ds.length hcq)).kd fun b hb => Nat.lt_of_lt_of_le hb HX.out.size))
  obtain ⟨z0, z1, z2, z3⟩ := HR3.out.cells
  obtain ⟨f0, f1, f2, f3⟩ := HR3.out.frozen
  clear hoN hoN2 hb3
  generalize ks.length = N at *
  generalize ds.length = M at *
  go_wp2
  refine bodyPost_ret (v := .agg #[.int .i64 3, .string ⟨#[]⟩, .slice ha N hcp, .slice hA M hcq]) (by simp [results, Try.results31, go_sem, z0, z1, z2, z3]) rfl ⟨_, _, _, _, rfl, HND.out, HX.out⟩
namespace N8
theorem sort_one (x : L8) : sortL [x] = [x] := sortL_eq (List.pairwise_singleton _ _) fun y => Iff.rfl
theorem fine_text1 (t : L8) : Fine (.mk 1 t [] []) := .mk (by decide) (by decide) (by simp [formB]) (fun h => by cases h) fun d h => by cases h
theorem fine_map1 (x : L8) (d : Nd) (h : Fine d) : Fine (.mk 3 [] [x] [d]) := .mk (by decide) (by decide) (by simp [formB]) (fun _ => ⟨rfl, by rw [sort_one]⟩) fun e he => by
  rcases List.mem_cons.1 he with rfl | h'
  · exact h
  · cases h'
theorem fine_seq2 (d d' : Nd) (h : Fine d) (h' : Fine d') : Fine (.mk 2 [] [] [d, d']) := .mk (by decide) (by decide) (by simp [formB]) (fun h => by cases h) fun e he => by
  rcases List.mem_cons.1 he with rfl | he
  · exact h
  · rcases List.mem_cons.1 he with rfl | he
    · exact h'
    · cases he
/-- Chapter 8's example. -/
def exY : Nd := .mk 1 [121] [] []
def exB : Nd := .mk 3 [] [[98]] [exY]
def exX : Nd := .mk 1 [120] [] []
def exS : Nd := .mk 2 [] [] [exX, exB]
def exA : Nd := .mk 3 [] [[97]] [exS]
theorem ex_fine : Fine exA := fine_map1 _ _ (fine_seq2 _ _ (fine_text1 _) (fine_map1 _ _ (fine_text1 _)))
theorem ex_at : atT exA [[97], [49], [98]] = some exY := by rfl
end N8
theorem ndw_agg {w : World} {d : Nd} {c0 c1 c2 c3 : Value} (h : NdW w d c0 c1 c2 c3) (W : World) (hb : Below w.heap.size w W) : NdW W d c0 c1 c2 c3 := h.below hb
set_option maxRecDepth 100000 in
set_option maxHeartbeats 8000000 in
theorem awake_any (w : World) : Calls Try.prog 7 #[] w fun e w' => e = .returned (.bool true) ∧ Below w.heap.size w w' := by
  go_enter Try.func7, Try.ntmps7
  have hb0 : Below w.heap.size w (w.alloc (.cells #[.string ⟨#[97]⟩] 9)) := (Below.refl _ _).alloc (Nat.le_refl _) _
  have HB0 := Lib.hid hb0
  have HK0 := Lib.hid (rd_one w ⟨#[97]⟩)
  clear hb0
  go_wp2_with fail
  generalize w.alloc (.cells #[.string ⟨#[97]⟩] 9) = W0 at *
  refine (Text_any ⟨#[120]⟩ W0).mono ?_
  rintro e w1 ⟨rfl, hb1⟩
  have HB1 := Lib.hid (HB0.out.trans (hb1.mono HB0.out.size))
  have HK1 := Lib.hid (HK0.out.below hb1)
  have HX1 := Lib.hid (ndw_text w1 ⟨#[120]⟩)
  have hb2 : Below w1.heap.size w1 (w1.alloc (.cells #[.string ⟨#[98]⟩] 9)) := (Below.refl _ _).alloc (Nat.le_refl _) _
  have HB2 := Lib.hid (HB1.out.trans (hb2.mono HB1.out.size))
  have HK2 := Lib.hid (HK1.out.below hb2)
  have HX2 := Lib.hid (HX1.out.below hb2)
  have HL2 := Lib.hid (rd_one w1 ⟨#[98]⟩)
  clear hb1 hb2 HB0 HK0
  go_wp2_with fail
  generalize w1.alloc (.cells #[.string ⟨#[98]⟩] 9) = W2 at *
  refine (Text_any ⟨#[121]⟩ W2).mono ?_
  rintro e w3 ⟨rfl, hb3⟩
  have HX3 := Lib.hid (HX2.out.below hb3)
  have HK3 := Lib.hid (HK2.out.below hb3)
  have HL3 := Lib.hid (HL2.out.below hb3)
  have HB3 := Lib.hid (HB2.out.trans (hb3.mono HB2.out.size))
  have hy3 := ndw_text w3 ⟨#[121]⟩
  have hb4 : Below w3.heap.size w3 (w3.alloc (.cells #[.int .i64 1, .string ⟨#[121]⟩, .slice none 0 0, .slice none 0 0] 25)) := (Below.refl _ _).alloc (Nat.le_refl _) _
  have HY4 := Lib.hid (kd_one hy3)
  have HX4 := Lib.hid (HX3.out.below hb4)
  have HK4 := Lib.hid (HK3.out.below hb4)
  have HL4 := Lib.hid (HL3.out.below hb4)
  have HB4 := Lib.hid (HB3.out.trans (hb4.mono HB3.out.size))
  clear hb3 hb4 hy3 HX3 HK3 HL3 HB3 HX2 HK2 HL2 HB2 HB1 HK1 HX1
  go_wp2_with fail
  generalize w3.alloc (.cells #[.int .i64 1, .string ⟨#[121]⟩, .slice none 0 0, .slice none 0 0] 25) = W4 at *
  refine (Map_any _ _ [[98]] [exY] (fine_map1 _ _ (fine_text1 _)) (by decide) (by decide) W4 HL4.out HY4.out).mono ?_
  rintro e w5 ⟨u0, u1, u2, u3, rfl, hn5, hb5⟩
  have HM5 := Lib.hid hn5
  obtain ⟨k5, s5, a5, n5, c5, A5, m5, q5, rfl, rfl, rfl, rfl⟩ := hn5.shape
  have HX5 := Lib.hid (HX4.out.below hb5)
  have HK5 := Lib.hid (HK4.out.below hb5)
  have HB5 := Lib.hid (HB4.out.trans (hb5.mono HB4.out.size))
  have hb6 : Below w5.heap.size w5 (w5.alloc (.cells #[.int .i64 1, .string ⟨#[120]⟩, .slice none 0 0, .slice none 0 0, .int .i64 k5, .string s5, .slice a5 n5 c5, .slice A5 m5 q5] 25)) := (Below.refl _ _).alloc (Nat.le_refl _) _
  have HS6 := Lib.hid (kd_two HX5.out HM5.out)
  have HK6 := Lib.hid (HK5.out.below hb6)
  have HB6 := Lib.hid (HB5.out.trans (hb6.mono HB5.out.size))
  clear hn5 hb5 hb6 HX4 HK4 HL4 HB4 HY4 HX5 HK5 HB5 HM5
  go_wp2_with fail
  generalize w5.alloc (.cells #[.int .i64 1, .string ⟨#[120]⟩, .slice none 0 0, .slice none 0 0, .int .i64 k5, .string s5, .slice a5 n5 c5, .slice A5 m5 q5] 25) = W6 at *
  refine (Seq_any _ [exX, exB] W6 HS6.out (by decide)).mono ?_
  rintro e w7 ⟨u0, u1, u2, u3, rfl, hn7, hb7⟩
  obtain ⟨k7, s7, a7, n7, c7, A7, m7, q7, rfl, rfl, rfl, rfl⟩ := hn7.shape
  have HK7 := Lib.hid (HK6.out.below hb7)
  have HB7 := Lib.hid (HB6.out.trans (hb7.mono HB6.out.size))
  have hb8 : Below w7.heap.size w7 (w7.alloc (.cells #[.int .i64 k7, .string s7, .slice a7 n7 c7, .slice A7 m7 q7] 25)) := (Below.refl _ _).alloc (Nat.le_refl _) _
  have HS8 := Lib.hid (kd_one hn7)
  have HK8 := Lib.hid (HK7.out.below hb8)
  have HB8 := Lib.hid (HB7.out.trans (hb8.mono HB7.out.size))
  clear hn7 hb7 hb8 HS6 HK6 HB6 HK7 HB7
  go_wp2_with fail
  generalize w7.alloc (.cells #[.int .i64 k7, .string s7, .slice a7 n7 c7, .slice A7 m7 q7] 25) = W8 at *
  refine (Map_any _ _ [[97]] [exS] ex_fine (by decide) (by decide) W8 HK8.out HS8.out).mono ?_
  rintro e w9 ⟨u0, u1, u2, u3, rfl, hn9, hb9⟩
  obtain ⟨k9, s9, a9, n9, c9, A9, m9, q9, rfl, rfl, rfl, rfl⟩ := hn9.shape
  have HB9 := Lib.hid (HB8.out.trans (hb9.mono HB8.out.size))
  have HX9 := Lib.hid (Boxed.make hn9)
  have hbA : Below w9.heap.size w9 (w9.alloc (.cells #[.int .i64 k9, .string s9, .slice a9 n9 c9, .slice A9 m9 q9] 25)) := (Below.refl _ _).alloc (Nat.le_refl _) _
  have HBA := Lib.hid (HB9.out.trans (hbA.mono HB9.out.size))
  obtain ⟨x0, x1, x2, x3⟩ := HX9.out.2.1.cells
  clear hn9 hb9 HS8 HK8 HB8 hbA HB9
  go_wp2_with fail
  generalize hWA : w9.alloc (.cells #[.int .i64 k9, .string s9, .slice a9 n9 c9, .slice A9 m9 q9] 25) = WA at *
  have hbB : Below WA.heap.size WA (WA.alloc (.cells #[.string ⟨#[97]⟩, .string ⟨#[49]⟩, .string ⟨#[98]⟩] 9)) := (Below.refl _ _).alloc (Nat.le_refl _) _
  have HP := Lib.hid (rd_three WA ⟨#[97]⟩ ⟨#[49]⟩ ⟨#[98]⟩)
  have HXB := Lib.hid (HX9.out.go hbB)
  have HBB := Lib.hid (HBA.out.trans (hbB.mono HBA.out.size))
  have hszA : WA.heap.size = w9.heap.size + 1 := by rw [← hWA]; simp
  rw [hszA] at HP
  clear hWA hbB hszA x0 x1 x2 x3 HX9 HBA
  generalize WA.alloc (.cells #[.string ⟨#[97]⟩, .string ⟨#[49]⟩, .string ⟨#[98]⟩] 9) = WB at *
  refine (At_node exA [[97], [49], [98]] ex_fine (by decide) (some exY) ex_at _ _ _ _ _ WB HP.out (fun x hx => by
    simp only [List.mem_cons, List.not_mem_nil, or_false] at hx
    rcases hx with rfl | rfl | rfl <;> exact (by decide : (1 : Nat) ≤ 2 ^ 63 - 1)) HXB.out.2.2).mono ?_
  rintro e wC ⟨e0, e1, e2, e3, rfl, hbC, hnC⟩
  have HBC := Lib.hid (HBB.out.trans (hbC.mono HBB.out.size))
  have HXC := Lib.hid (HXB.out.go hbC)
  have hnY : NdC (· < WB.heap.size) wC (.mk 1 [121] [] []) e0 e1 e2 e3 := hnC
  obtain ⟨k', s', a', n', c', A', m', q', rfl, rfl, rfl, rfl⟩ := NdC.cellsOk hnY
  have hs' : s' = ⟨#[121]⟩ := by
    rw [NdC] at hnY
    have h1 := hnY.2.1
    injection h1
  subst hs'
  have hal : Below wC.heap.size wC (wC.alloc (.cells #[.int .i64 k', .string ⟨#[121]⟩, .slice a' n' c', .slice A' m' q'] 25)) := (Below.refl _ _).alloc (Nat.le_refl _) _
  have HXD := Lib.hid (HXC.out.go hal)
  have HV := Lib.hid (Row4.make wC 25 (.int .i64 k') (.string ⟨#[121]⟩) (.slice a' n' c') (.slice A' m' q'))
  have HBD := Lib.hid (HBC.out.trans (hal.mono HBC.out.size))
  clear hbC hnC hnY hal HXC HXB HP HBB HBC
  rw [show (some exY).isSome = true from rfl]
  obtain ⟨x0, x1, x2, x3⟩ := HXD.out.2.1.cells
  obtain ⟨v0, v1, v2, v3⟩ := HV.out.cells
  go_wp2_with fail
  generalize wC.alloc (.cells #[.int .i64 k', .string ⟨#[121]⟩, .slice a' n' c', .slice A' m' q'] 25) = WD at *
  refine (Deep_any exA (by decide) _ _ _ _ WD HXD.out.2.2).mono ?_
  rintro e wE ⟨rfl, hbE⟩
  have HXE := Lib.hid (HXD.out.go hbE)
  have HBE := Lib.hid (HBD.out.trans (hbE.mono HBD.out.size))
  clear hbE HXD HBD x0 x1 x2 x3 v0 v1 v2 v3
  obtain ⟨x0, x1, x2, x3⟩ := HXE.out.2.1.cells
  rw [show ((depT exA : Nat) : Int) = 4 from rfl]
  go_wp2_with fail
  refine (Count_any exA (by decide) _ _ _ _ wE HXE.out.2.2).mono ?_
  rintro e wF ⟨rfl, hbF⟩
  have HXF := Lib.hid (HXE.out.go hbF)
  have HBF := Lib.hid (HBE.out.trans (hbF.mono HBE.out.size))
  clear hbF HXE HBE x0 x1 x2 x3
  obtain ⟨x0, x1, x2, x3⟩ := HXF.out.2.1.cells
  rw [show ((cntT exA : Nat) : Int) = 5 from rfl]
  go_wp2_with fail
  refine (Right_any exA ex_fine (by decide) (by decide) _ _ _ _ wF HXF.out.2.2).mono ?_
  rintro e wG ⟨rfl, hbG⟩
  have HBG := Lib.hid (HBF.out.trans (hbG.mono HBF.out.size))
  clear hbG
  go_wp2
  go_ret
  exact ⟨rfl, HBG.out⟩
end Go.Proofs.Ytgingebdoppdbaa
