/- NodePuts: the walk of the law. -/
import Derived.Test.YtgingebdoppdbaaNodLaw1
import Derived.Test.YtgingebdoppdbaaNodPutMath
namespace Go.Proofs.Ytgingebdoppdbaa
open Go.RowKit Go.Sort
open Nw N8 Go.ChangeShapes Go.WideShapes
set_option linter.unusedVariables false
theorem str_beq_of {x y : ByteArray} (h : x.data.toList = y.data.toList) : (x.toList == y.toList) = true := by rw [ByteArray.toList_eq, ByteArray.toList_eq, h]; exact beq_self_eq_true _
theorem str_beq_no {x y : ByteArray} (h : x.data.toList ≠ y.data.toList) : (x.toList == y.toList) = false := by rw [ByteArray.toList_eq, ByteArray.toList_eq]; exact beq_eq_false_iff_ne.2 h
set_option maxRecDepth 100000 in
set_option maxHeartbeats 16000000 in
theorem NodePuts_walk (n v : Nd) (key other : ByteArray) (c0 c1 c2 c3 u0 u1 u2 u3 : Value) (w : World) (hn : NdW w n c0 c1 c2 c3) (hv : NdW w v u0 u1 u2 u3) (_ : key.size ≤ maxLen) (_ : other.size ≤ maxLen) :
    Calls Try.prog 4 #[.agg #[c0, c1, c2, c3], .agg #[u0, u1, u2, u3], .string key, .string other] w fun e w' => e = .returned (.bool true) ∧ Below w.heap.size w w' := by
  have hb2 := Boxed2.make hn hv
  obtain ⟨n_k, n_s, n_a, n_n, n_c, n_A, n_m, n_q, rfl, rfl, rfl, rfl⟩ := hn.shape
  obtain ⟨v_k, v_s, v_a, v_n, v_c, v_A, v_m, v_q, rfl, rfl, rfl, rfl⟩ := hv.shape
  have HBn : Hid (BN _ w.heap.size n (.int .i64 n_k) (.string n_s) (.slice n_a n_n n_c) (.slice n_A n_m n_q)) := Lib.hid ⟨hb2.2.1, hb2.2.2.2.1⟩
  have HBv : Hid (BN _ (w.heap.size + 1) v (.int .i64 v_k) (.string v_s) (.slice v_a v_n v_c) (.slice v_A v_m v_q)) := Lib.hid ⟨hb2.2.2.1, hb2.2.2.2.2⟩
  have HBW := Lib.hid hb2.1
  have hnk := (NdC.len hn).1
  have HSn := Lib.hid (fun W r hr hW => RSmall_any n 300 (by decide) (by decide) r hr (.int .i64 n_k) (.string n_s) (.slice n_a n_n n_c) (.slice n_A n_m n_q) W hW)
  have HSv := Lib.hid (fun W r hr hW => RSmall_any v 300 (by decide) (by decide) r hr (.int .i64 v_k) (.string v_s) (.slice v_a v_n v_c) (.slice v_A v_m v_q) W hW)
  have HNK := Lib.hid hnk
  clear hb2 hn hv hnk
  generalize hW0 : (w.alloc (.cells #[.int .i64 n_k, .string n_s, .slice n_a n_n n_c, .slice n_A n_m n_q] 25)).alloc (.cells #[.int .i64 v_k, .string v_s, .slice v_a v_n v_c, .slice v_A v_m v_q] 25) = W0 at *
  obtain ⟨x0, x1, x2, x3⟩ := HBn.out.1.cells
  cases hsn : smallT n 300 with
  | false =>
    go_enter Try.func4, Try.ntmps4
    go_wp2_with fail
    refine (HSn.out _ false hsn HBn.out.2).mono ?_
    rintro e w1 ⟨rfl, hb1⟩
    have HB1 := Lib.hid (below3 HBW.out hb1)
    clear hb1
    go_wp2_with fail
    refine (awake_any _).mono ?_
    rintro e w2 ⟨rfl, hb2⟩
    go_wp2
    go_ret
    exact ⟨rfl, below3 HB1.out hb2⟩
  | true =>
  have HSN := Lib.hid hsn
  cases hsv : smallT v 300 with
  | false =>
    go_enter Try.func4, Try.ntmps4
    go_wp2_with fail
    refine (HSn.out _ true HSN.out HBn.out.2).mono ?_
    rintro e w1 ⟨rfl, hb1⟩
    have HB1 := Lib.hid (below3 HBW.out hb1)
    replace HBv := Lib.hid (HBv.out.go hb1)
    clear hb1 x0 x1 x2 x3
    obtain ⟨y0, y1, y2, y3⟩ := HBv.out.1.cells
    go_wp2_with fail
    refine (HSv.out _ false hsv HBv.out.2).mono ?_
    rintro e w2 ⟨rfl, hb2⟩
    have HB2 := Lib.hid (below3 HB1.out hb2)
    clear hb2
    go_wp2_with fail
    refine (awake_any _).mono ?_
    rintro e w3 ⟨rfl, hb3⟩
    go_wp2
    go_ret
    exact ⟨rfl, below3 HB2.out hb3⟩
  | true =>
  have HSV := Lib.hid hsv
  clear hsn hsv
  by_cases hk : n_k = 1 ∨ n_k = 2
  · rcases hk with rfl | rfl
    all_goals
      go_enter Try.func4, Try.ntmps4
      go_wp2_with fail
      refine (HSn.out _ true HSN.out HBn.out.2).mono ?_
      rintro e w1 ⟨rfl, hb1⟩
      have HB1 := Lib.hid (below3 HBW.out hb1)
      replace HBv := Lib.hid (HBv.out.go hb1)
      replace HBn := Lib.hid (HBn.out.go hb1)
      clear hb1 x0 x1 x2 x3
      obtain ⟨y0, y1, y2, y3⟩ := HBv.out.1.cells
      go_wp2_with fail
      refine (HSv.out _ true HSV.out HBv.out.2).mono ?_
      rintro e w2 ⟨rfl, hb2⟩
      have HB2 := Lib.hid (below3 HB1.out hb2)
      replace HBn := Lib.hid (HBn.out.go hb2)
      clear hb2 y0 y1 y2 y3
      obtain ⟨x0, x1, x2, x3⟩ := HBn.out.1.cells
      go_wp2_with fail
      refine (awake_any _).mono ?_
      rintro e w3 ⟨rfl, hb3⟩
      go_wp2
      go_ret
      exact ⟨rfl, below3 HB2.out hb3⟩
  · have hf := small_fine HSN.out
    have hfv := small_fine HSV.out
    have hn1 : cntT n ≤ 300 := by have := hf.2; omega
    have hv1 : cntT v ≤ 300 := by have := hfv.2; omega
    have hk03 : n.kind = 0 ∨ n.kind = 3 := by
      have h1 := HNK.out
      have h2 := hf.1
      cases h2 with
      | @mk k' t' ks' ds' h0 h3 _ _ _ =>
        have h4 : k' = n_k := h1
        show k' = 0 ∨ k' = 3
        omega
    have p1 : (n_k == 1) = false := beq_eq_false_iff_ne.2 fun h => hk (.inl h)
    have p2 : (n_k == 2) = false := beq_eq_false_iff_ne.2 fun h => hk (.inr h)
    have hkn : n.kids.length ≤ 10000 := by have := kids_cnt n; omega
    have HWI := Lib.hid (fun W hW hW' => With_any n v key hf.1 hkn (.int .i64 n_k) (.string n_s) (.slice n_a n_n n_c) (.slice n_A n_m n_q) (.int .i64 v_k) (.string v_s) (.slice v_a v_n v_c) (.slice v_A v_m v_q) W hW hW')
    have HRWI := Lib.hid (fun W hW hW' => RWith_any n v key hf.1 hkn (.int .i64 n_k) (.string n_s) (.slice n_a n_n n_c) (.slice n_A n_m n_q) (.int .i64 v_k) (.string v_s) (.slice v_a v_n v_c) (.slice v_A v_m v_q) W hW hW')
    obtain ⟨m, hm⟩ : ∃ m, withT n key.data.toList v = m := ⟨_, rfl⟩
    have HM := Lib.hid hm
    rw [hm] at HWI HRWI
    have HK := Lib.hid hk03
    have HF := Lib.hid hf.1
    have HN1 := Lib.hid hn1
    have HV1 := Lib.hid hv1
    clear hf hfv hn1 hv1 hk03 hk hkn hm
    go_enter Try.func4, Try.ntmps4
    go_wp2_with fail
    refine (HSn.out _ true HSN.out HBn.out.2).mono ?_
    rintro e w1 ⟨rfl, hb⟩
    replace HBW := Lib.hid (below3 HBW.out hb)
    replace HBn := Lib.hid (HBn.out.go hb)
    replace HBv := Lib.hid (HBv.out.go hb)
    clear hb x0 x1 x2 x3
    obtain ⟨y0, y1, y2, y3⟩ := HBv.out.1.cells
    go_wp2_with fail
    refine (HSv.out _ true HSV.out HBv.out.2).mono ?_
    rintro e w2 ⟨rfl, hb⟩
    replace HBW := Lib.hid (below3 HBW.out hb)
    replace HBn := Lib.hid (HBn.out.go hb)
    replace HBv := Lib.hid (HBv.out.go hb)
    clear hb y0 y1 y2 y3 hW0
    obtain ⟨x0, x1, x2, x3⟩ := HBn.out.1.cells
    obtain ⟨y0, y1, y2, y3⟩ := HBv.out.1.cells
    go_wp2_with fail
    refine (HWI.out _ HBn.out.2 HBv.out.2).mono ?_
    rintro e w3 ⟨t0, t1, t2, t3, rfl, hn3, hb⟩
    obtain ⟨m_k, m_s, m_a, m_n, m_c, m_A, m_m, m_q, rfl, rfl, rfl, rfl⟩ := hn3.shape
    replace HBW := Lib.hid (below3 (below3 HBW.out hb) (below_al _ (.cells #[.int .i64 m_k, .string m_s, .slice m_a m_n m_c, .slice m_A m_m m_q] 25)))
    replace HBn := Lib.hid ((HBn.out.go hb).go (below_al _ (.cells #[.int .i64 m_k, .string m_s, .slice m_a m_n m_c, .slice m_A m_m m_q] 25)))
    replace HBv := Lib.hid ((HBv.out.go hb).go (below_al _ (.cells #[.int .i64 m_k, .string m_s, .slice m_a m_n m_c, .slice m_A m_m m_q] 25)))
    have HBm := Lib.hid (bn_make hn3)
    clear hb hn3 x0 x1 x2 x3 y0 y1 y2 y3
    obtain ⟨x0, x1, x2, x3⟩ := HBn.out.1.cells
    obtain ⟨y0, y1, y2, y3⟩ := HBv.out.1.cells
    go_wp2_with fail
    generalize w3.alloc (.cells #[.int .i64 m_k, .string m_s, .slice m_a m_n m_c, .slice m_A m_m m_q] 25) = W3 at *
    generalize w3.heap.size = gm at *
    refine (HRWI.out _ HBn.out.2 HBv.out.2).mono ?_
    rintro e w4 ⟨t0, t1, t2, t3, rfl, hn4, hb⟩
    replace HBW := Lib.hid (below3 HBW.out hb)
    replace HBn := Lib.hid (HBn.out.go hb)
    replace HBv := Lib.hid (HBv.out.go hb)
    replace HBm := Lib.hid (HBm.out.go hb)
    have HN4 := Lib.hid hn4
    clear hb hn4 x0 x1 x2 x3 y0 y1 y2 y3
    go_wp2_with fail
    cases hok : okT 2000 m with
    | false =>
      refine (RRight_any m false hok _ _ _ _ w4 HN4.out).mono ?_
      rintro e w5 ⟨rfl, hb⟩
      replace HBW := Lib.hid (below3 HBW.out hb)
      clear hb hok
      go_wp2_with fail
      refine (awake_any _).mono ?_
      rintro e w6 ⟨rfl, hb⟩
      go_wp2
      go_ret
      exact ⟨rfl, below3 HBW.out hb⟩
    | true =>
    refine (RRight_any m true hok _ _ _ _ w4 HN4.out).mono ?_
    rintro e w5 ⟨rfl, hb⟩
    replace HBW := Lib.hid (below3 HBW.out hb)
    replace HBn := Lib.hid (HBn.out.go hb)
    replace HBv := Lib.hid (HBv.out.go hb)
    replace HBm := Lib.hid (HBm.out.go hb)
    have hfm := ok_fine hok
    have hcm : cntT m ≤ 2000 := by have := ok_cnt hok; omega
    have hkm : m.kind = 3 := by rw [← HM.out]; exact with_kind HK.out _ _
    have hkk : m.kids.length ≤ 10000 := by have := kids_cnt m; omega
    have HLE := Lib.hid (fun W hW => Less_any m key hfm hkk (.int .i64 m_k) (.string m_s) (.slice m_a m_n m_c) (.slice m_A m_m m_q) W hW)
    have HLL := Lib.hid (less_lens hfm key.data.toList)
    have HGM := Lib.hid (fun W hW => Get_any (· < W.heap.size) m key (fine_keys hfm) (some v) (by rw [← HM.out]; exact with_get HF.out HK.out _ _) (.int .i64 m_k) (.string m_s) (.slice m_a m_n m_c) (.slice m_A m_m m_q) W (fun b hb => hb) hW)
    have HLG := Lib.hid (less_get hfm hkm key.data.toList)
    have HLK := Lib.hid (less_keys hfm hkm (x := key.data.toList) (by rw [← HM.out]; exact with_mem HK.out _ _))
    have HGO : Hid (key.data.toList ≠ other.data.toList → getT m other.data.toList = getT n other.data.toList) := Lib.hid (fun h => by rw [← HM.out]; exact with_get_oth HF.out HK.out h v)
    have HLO : Hid (key.data.toList ≠ other.data.toList → getT (lessT m key.data.toList) other.data.toList = getT m other.data.toList) := Lib.hid (fun h => less_get_oth hfm hkm h)
    have HFK := Lib.hid (fine_keys hfm)
    obtain ⟨ls, hls⟩ : ∃ ls, lessT m key.data.toList = ls := ⟨_, rfl⟩
    rw [hls] at HLE HLL HLG HLK HLO
    clear hb hok hfm hcm hkm hkk hls HN4 HWI HRWI HSn HSv
    obtain ⟨x0, x1, x2, x3⟩ := HBm.out.1.cells
    go_wp2_with fail
    refine (HLE.out _ HBm.out.2).mono ?_
    rintro e w6 ⟨t0, t1, t2, t3, rfl, hn6, hb⟩
    obtain ⟨l_k, l_s, l_a, l_n, l_c, l_A, l_m, l_q, rfl, rfl, rfl, rfl⟩ := hn6.shape
    replace HBW := Lib.hid (below3 (below3 HBW.out hb) (below_al _ (.cells #[.int .i64 l_k, .string l_s, .slice l_a l_n l_c, .slice l_A l_m l_q] 25)))
    replace HBn := Lib.hid ((HBn.out.go hb).go (below_al _ (.cells #[.int .i64 l_k, .string l_s, .slice l_a l_n l_c, .slice l_A l_m l_q] 25)))
    replace HBv := Lib.hid ((HBv.out.go hb).go (below_al _ (.cells #[.int .i64 l_k, .string l_s, .slice l_a l_n l_c, .slice l_A l_m l_q] 25)))
    replace HBm := Lib.hid ((HBm.out.go hb).go (below_al _ (.cells #[.int .i64 l_k, .string l_s, .slice l_a l_n l_c, .slice l_A l_m l_q] 25)))
    have HBl := Lib.hid (bn_make hn6)
    clear hb hn6 x0 x1 x2 x3
    obtain ⟨x0, x1, x2, x3⟩ := HBm.out.1.cells
    go_wp2_with fail
    generalize w6.alloc (.cells #[.int .i64 l_k, .string l_s, .slice l_a l_n l_c, .slice l_A l_m l_q] 25) = W6 at *
    generalize w6.heap.size = gl at *
    refine (HGM.out _ HBm.out.2).mono ?_
    rintro e w7 hg7
    obtain ⟨t0, t1, t2, t3, rfl, hb, hn7⟩ := hg7.all
    obtain ⟨g_k, g_s, g_a, g_n, g_c, g_A, g_m, g_q, rfl, rfl, rfl, rfl⟩ := hn7.shape
    replace HBW := Lib.hid (below3 (below3 HBW.out hb) (below_al _ (.cells #[.int .i64 g_k, .string g_s, .slice g_a g_n g_c, .slice g_A g_m g_q] 25)))
    replace HBn := Lib.hid ((HBn.out.go hb).go (below_al _ (.cells #[.int .i64 g_k, .string g_s, .slice g_a g_n g_c, .slice g_A g_m g_q] 25)))
    replace HBv := Lib.hid ((HBv.out.go hb).go (below_al _ (.cells #[.int .i64 g_k, .string g_s, .slice g_a g_n g_c, .slice g_A g_m g_q] 25)))
    replace HBm := Lib.hid ((HBm.out.go hb).go (below_al _ (.cells #[.int .i64 g_k, .string g_s, .slice g_a g_n g_c, .slice g_A g_m g_q] 25)))
    replace HBl := Lib.hid ((HBl.out.go hb).go (below_al _ (.cells #[.int .i64 g_k, .string g_s, .slice g_a g_n g_c, .slice g_A g_m g_q] 25)))
    have HBg : Hid (BN _ _ v (.int .i64 g_k) (.string g_s) (.slice g_a g_n g_c) (.slice g_A g_m g_q)) := Lib.hid (bn_make hn7)
    rw [show (some v).isSome = true from rfl]
    clear hg7 hb hn7 x0 x1 x2 x3
    obtain ⟨x0, x1, x2, x3⟩ := HBl.out.1.cells
    go_wp2_with fail
    generalize w7.alloc (.cells #[.int .i64 g_k, .string g_s, .slice g_a g_n g_c, .slice g_A g_m g_q] 25) = W7 at *
    generalize w7.heap.size = gg at *
    refine (Get_any (· < W7.heap.size) ls key HLL.out none HLG.out (.int .i64 l_k) (.string l_s) (.slice l_a l_n l_c) (.slice l_A l_m l_q) W7 (fun b hb => hb) HBl.out.2).mono ?_
    rintro e w8 hg8
    obtain ⟨t0, t1, t2, t3, rfl, hb, hn8⟩ := hg8.all
    obtain ⟨h_k, h_s, h_a, h_n, h_c, h_A, h_m, h_q, rfl, rfl, rfl, rfl⟩ := hn8.shape
    replace HBW := Lib.hid (below3 (below3 HBW.out hb) (below_al _ (.cells #[.int .i64 h_k, .string h_s, .slice h_a h_n h_c, .slice h_A h_m h_q] 25)))
    replace HBn := Lib.hid ((HBn.out.go hb).go (below_al _ (.cells #[.int .i64 h_k, .string h_s, .slice h_a h_n h_c, .slice h_A h_m h_q] 25)))
    replace HBv := Lib.hid ((HBv.out.go hb).go (below_al _ (.cells #[.int .i64 h_k, .string h_s, .slice h_a h_n h_c, .slice h_A h_m h_q] 25)))
    replace HBm := Lib.hid ((HBm.out.go hb).go (below_al _ (.cells #[.int .i64 h_k, .string h_s, .slice h_a h_n h_c, .slice h_A h_m h_q] 25)))
    replace HBl := Lib.hid ((HBl.out.go hb).go (below_al _ (.cells #[.int .i64 h_k, .string h_s, .slice h_a h_n h_c, .slice h_A h_m h_q] 25)))
    replace HBg := Lib.hid ((HBg.out.go hb).go (below_al _ (.cells #[.int .i64 h_k, .string h_s, .slice h_a h_n h_c, .slice h_A h_m h_q] 25)))
    rw [show (none : Option Nd).isSome = false from rfl]
    clear hg8 hb hn8 x0 x1 x2 x3
    obtain ⟨x0, x1, x2, x3⟩ := HBg.out.1.cells
    obtain ⟨y0, y1, y2, y3⟩ := HBv.out.1.cells
    go_wp2_with fail
    generalize w8.alloc (.cells #[.int .i64 h_k, .string h_s, .slice h_a h_n h_c, .slice h_A h_m h_q] 25) = W8 at *
    refine (Same_gen (by have := HV1.out; omega) HBg.out.2 HBv.out.2 (same_self v)).mono ?_
    rintro e w9 ⟨rfl, hb⟩
    replace HBW := Lib.hid (below3 HBW.out hb)
    replace HBn := Lib.hid (HBn.out.go hb)
    replace HBv := Lib.hid (HBv.out.go hb)
    replace HBm := Lib.hid (HBm.out.go hb)
    replace HBl := Lib.hid (HBl.out.go hb)
    replace HBg := Lib.hid (HBg.out.go hb)
    clear hb x0 x1 x2 x3 y0 y1 y2 y3
    have hln : (l_n : Int) + 1 = (m_n : Int) := by
      have h1 := (NdC.len HBl.out.2).2.1
      have h2 := (NdC.len HBm.out.2).2.1
      have h3 := HLK.out
      omega
    have hmb : m_n ≤ 9223372036854775807 := by
      obtain ⟨a, c, h, hh⟩ : ∃ a c, Value.slice m_a m_n m_c = .slice a m_n c ∧ m_n ≤ maxLen := by
        have h9 := HBm.out.2
        cases m with
        | mk k' t' ks' ds' =>
          obtain ⟨a', cap', h1, h2, h3⟩ := rd_slice h9.parts.2.2.1
          injection h1 with h11 h12 h13
          exact ⟨_, _, rfl, by rw [h12]; exact Nat.le_trans h2 h3⟩
      unfold maxLen at hh
      omega
    have q1 : IntKind.i64.wrap ((m_n : Int) - 1) = (m_n : Int) - 1 := IntWalk.i64_in _ (by omega)
    have q2 : ((l_n : Int) != (m_n : Int) - 1) = false := by rw [show (m_n : Int) - 1 = (l_n : Int) by omega]; simp
    obtain ⟨x0, x1, x2, x3⟩ := HBl.out.1.cells
    obtain ⟨y0, y1, y2, y3⟩ := HBm.out.1.cells
    clear hln hmb
    by_cases hko : key.data.toList = other.data.toList
    · have r1 := str_beq_of hko
      clear hko
      go_wp2_with fail
      refine (awake_any _).mono ?_
      rintro e wA ⟨rfl, hb⟩
      go_wp2
      go_ret
      exact ⟨rfl, below3 HBW.out hb⟩
    · have r1 := str_beq_no hko
      have hgo := HGO.out hko
      have hlo := (HLO.out hko).trans hgo
      obtain ⟨ro, hro⟩ : ∃ ro, getT n other.data.toList = ro := ⟨_, rfl⟩
      have hcn := get_cnt n other.data.toList
      rw [hro] at hgo hlo hcn
      have HRC : Hid (cntT (ro.getD nul) ≤ 65536) := Lib.hid (by have := HN1.out; omega)
      have HG1 := Lib.hid (fun W hW => Get_any (· < W.heap.size) n other (fine_keys HF.out) ro hro (.int .i64 n_k) (.string n_s) (.slice n_a n_n n_c) (.slice n_A n_m n_q) W (fun b hb => hb) hW)
      have HG2 := Lib.hid (fun W hW => Get_any (· < W.heap.size) m other HFK.out ro hgo (.int .i64 m_k) (.string m_s) (.slice m_a m_n m_c) (.slice m_A m_m m_q) W (fun b hb => hb) hW)
      have HG3 := Lib.hid (fun W hW => Get_any (· < W.heap.size) ls other HLL.out ro hlo (.int .i64 l_k) (.string l_s) (.slice l_a l_n l_c) (.slice l_A l_m l_q) W (fun b hb => hb) hW)
      obtain ⟨B, hB⟩ : ∃ B, ro.isSome = B := ⟨_, rfl⟩
      have HBB := Lib.hid hB
      clear hko hgo hlo hcn hro hB
      obtain ⟨z0, z1, z2, z3⟩ := HBn.out.1.cells
      go_wp2_with fail
      refine (HG1.out _ HBn.out.2).mono ?_
      rintro e wA hg9
      obtain ⟨t0, t1, t2, t3, rfl, hb, hn9⟩ := hg9.all
      obtain ⟨a_k, a_s, a_a, a_n, a_c, a_A, a_m, a_q, rfl, rfl, rfl, rfl⟩ := hn9.shape
      replace HBW := Lib.hid (below3 (below3 HBW.out hb) (below_al _ (.cells #[.int .i64 a_k, .string a_s, .slice a_a a_n a_c, .slice a_A a_m a_q] 25)))
      replace HBn := Lib.hid ((HBn.out.go hb).go (below_al _ (.cells #[.int .i64 a_k, .string a_s, .slice a_a a_n a_c, .slice a_A a_m a_q] 25)))
      replace HBm := Lib.hid ((HBm.out.go hb).go (below_al _ (.cells #[.int .i64 a_k, .string a_s, .slice a_a a_n a_c, .slice a_A a_m a_q] 25)))
      replace HBl := Lib.hid ((HBl.out.go hb).go (below_al _ (.cells #[.int .i64 a_k, .string a_s, .slice a_a a_n a_c, .slice a_A a_m a_q] 25)))
      have HBa := Lib.hid (bn_make hn9)
      rw [HBB.out]
      clear hg9 hb hn9 x0 x1 x2 x3 y0 y1 y2 y3 z0 z1 z2 z3
      obtain ⟨x0, x1, x2, x3⟩ := HBm.out.1.cells
      go_wp2_with fail
      generalize wA.alloc (.cells #[.int .i64 a_k, .string a_s, .slice a_a a_n a_c, .slice a_A a_m a_q] 25) = WA at *
      generalize wA.heap.size = ga at *
      refine (HG2.out _ HBm.out.2).mono ?_
      rintro e wB hg9
      obtain ⟨t0, t1, t2, t3, rfl, hb, hn9⟩ := hg9.all
      obtain ⟨b_k, b_s, b_a, b_n, b_c, b_A, b_m, b_q, rfl, rfl, rfl, rfl⟩ := hn9.shape
      replace HBW := Lib.hid (below3 (below3 HBW.out hb) (below_al _ (.cells #[.int .i64 b_k, .string b_s, .slice b_a b_n b_c, .slice b_A b_m b_q] 25)))
      replace HBm := Lib.hid ((HBm.out.go hb).go (below_al _ (.cells #[.int .i64 b_k, .string b_s, .slice b_a b_n b_c, .slice b_A b_m b_q] 25)))
      replace HBl := Lib.hid ((HBl.out.go hb).go (below_al _ (.cells #[.int .i64 b_k, .string b_s, .slice b_a b_n b_c, .slice b_A b_m b_q] 25)))
      replace HBa := Lib.hid ((HBa.out.go hb).go (below_al _ (.cells #[.int .i64 b_k, .string b_s, .slice b_a b_n b_c, .slice b_A b_m b_q] 25)))
      have HBb := Lib.hid (bn_make hn9)
      rw [HBB.out]
      clear hg9 hb hn9 x0 x1 x2 x3
      obtain ⟨x0, x1, x2, x3⟩ := HBl.out.1.cells
      go_wp2_with fail
      generalize wB.alloc (.cells #[.int .i64 b_k, .string b_s, .slice b_a b_n b_c, .slice b_A b_m b_q] 25) = WB at *
      generalize wB.heap.size = gb at *
      refine (HG3.out _ HBl.out.2).mono ?_
      rintro e wC hg9
      obtain ⟨t0, t1, t2, t3, rfl, hb, hn9⟩ := hg9.all
      obtain ⟨c_k, c_s, c_a, c_n, c_c, c_A, c_m, c_q, rfl, rfl, rfl, rfl⟩ := hn9.shape
      replace HBW := Lib.hid (below3 (below3 HBW.out hb) (below_al _ (.cells #[.int .i64 c_k, .string c_s, .slice c_a c_n c_c, .slice c_A c_m c_q] 25)))
      replace HBa := Lib.hid ((HBa.out.go hb).go (below_al _ (.cells #[.int .i64 c_k, .string c_s, .slice c_a c_n c_c, .slice c_A c_m c_q] 25)))
      replace HBb := Lib.hid ((HBb.out.go hb).go (below_al _ (.cells #[.int .i64 c_k, .string c_s, .slice c_a c_n c_c, .slice c_A c_m c_q] 25)))
      have HBc := Lib.hid (bn_make hn9)
      rw [HBB.out]
      clear hg9 hb hn9 x0 x1 x2 x3
      obtain ⟨x0, x1, x2, x3⟩ := HBa.out.1.cells
      obtain ⟨y0, y1, y2, y3⟩ := HBb.out.1.cells
      go_wp2_with fail
      generalize wC.alloc (.cells #[.int .i64 c_k, .string c_s, .slice c_a c_n c_c, .slice c_A c_m c_q] 25) = WC at *
      generalize wC.heap.size = gc at *
      refine (Same_gen HRC.out HBa.out.2 HBb.out.2 (same_self _)).mono ?_
      rintro e wD ⟨rfl, hb⟩
      replace HBW := Lib.hid (below3 HBW.out hb)
      replace HBb := Lib.hid (HBb.out.go hb)
      replace HBc := Lib.hid (HBc.out.go hb)
      clear hb x0 x1 x2 x3 y0 y1 y2 y3
      obtain ⟨x0, x1, x2, x3⟩ := HBb.out.1.cells
      obtain ⟨y0, y1, y2, y3⟩ := HBc.out.1.cells
      go_wp2_with fail
      refine (Same_gen HRC.out HBb.out.2 HBc.out.2 (same_self _)).mono ?_
      rintro e wE ⟨rfl, hb⟩
      replace HBW := Lib.hid (below3 HBW.out hb)
      clear hb
      go_wp2_with fail
      refine (awake_any _).mono ?_
      rintro e wF ⟨rfl, hb⟩
      go_wp2
      go_ret
      exact ⟨rfl, below3 HBW.out hb⟩
end Go.Proofs.Ytgingebdoppdbaa
