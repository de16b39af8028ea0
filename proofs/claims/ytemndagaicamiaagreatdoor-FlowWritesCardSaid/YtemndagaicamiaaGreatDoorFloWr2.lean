/- What the program's Write appends for the kids of a node. -/
import Derived.Test.YtemndagaicamiaaGreatDoorFloWrt
namespace Go.Proofs.YtemndagaicamiaaGreatDoor
open Go.RowKit Go.Sort
open Nw N8 Q6 F9 Go.ChangeShapes Go.WideShapes
set_option linter.unusedVariables false
set_option maxRecDepth 100000 in
set_option maxHeartbeats 8000000 in
/-- The kids of a sequence. -/
theorem AK_seq (N : Nat) (ih : AFof N) (t : L8) (ks : List L8) (ds : List Nd) (hN : cntL ds ≤ N) (hf : ∀ d ∈ ds, Fine d) (l : L8) (n base g cap : Nat) (c0 c1 c2 c3 : Value) (w : World) (ho : w.ownsRow base 5 1 (.slice (some ⟨g, 0, none⟩) n cap) n (l.map encB)) (hb : base ≤ w.heap.size) (hd : NdC (· < base) w (.mk 2 t ks ds) c0 c1 c2 c3) (hs : l.length + (wrS ds).length ≤ 1000000) :
    Calls Tryz.prog 22 #[.slice (some ⟨g, 0, none⟩) n cap, .agg #[c0, c1, c2, c3]] w fun e w' => Apd w w' base (.slice (some ⟨g, 0, none⟩) n cap) (l ++ wrS ds) e := by
  obtain ⟨i0, hi, hz0, hz1, hz2⟩ := infoB
  obtain ⟨k0, T, a, na, ca, A, mA, qA, rfl, rfl, rfl, rfl⟩ := hd.cellsOk
  have hc := hd
  rw [NdC] at hc
  obtain ⟨h0, h1, hrk, Ax, capx, h3, h4, h5, -⟩ := hc
  injection h0 with _ h0
  injection h3 with h30 h31 h32
  subst h0; subst h30; subst h31; subst h32
  obtain ⟨W1, hW1⟩ : ∃ W1, w.alloc (.cells #[.int .i64 2, .string T, .slice a na ca, .slice A ds.length qA] 25) = W1 := ⟨_, rfl⟩
  have hal : w.grownBy W1 (some g) := by rw [← hW1]; exact World.grownBy_alloc w _ _
  have hX : Row4 W1 w.heap.size 25 (.int .i64 2) (.string T) (.slice a na ca) (.slice A ds.length qA) := by rw [← hW1]; exact Row4.make w _ _ _ _ _
  have hgb := ho.lt g rfl
  have hnH : (some g : Option Nat) ≠ some w.heap.size := fun e => by injection e with e; omega
  have hb1 : base ≤ W1.heap.size := Nat.le_trans hb hal.size
  have hd1 : NdC (· < base) W1 (.mk 2 t ks ds) (.int .i64 2) (.string T) (.slice a na ca) (.slice A ds.length qA) := by
    rw [← hW1]; exact NdC.keep (fun b hx => ⟨hx, Below.heap_alloc w _ b (by have : b < base := hx; omega)⟩) _ hd
  have hk0 : KS W1 base (some g) W1 g n cap l := ⟨by rw [← hW1]; exact ho.alloc _, ⟨rfl, rfl, rfl, Nat.le_refl _, fun _ _ _ => rfl⟩, .inl rfl⟩
  have HAL := Lib.hid hal
  have HX := Lib.hid hX
  have HND := Lib.hid (fun W (h : W1.grownBy W (some g)) => gro_nd h hb1 (fun g' e => by injection e with e; omega) hd1)
  have HBX := Lib.hid (fun W g' m' cap' L (h : KS W1 base (some g) W g' m' cap' L) => h.box hX hnH)
  have HK0 := Lib.hid (show KS W1 base (some g) W1 g n cap (l ++ []) by rw [List.append_nil]; exact hk0)
  have HIH := Lib.hid ih
  have HCN := Lib.hid (And.intro hN hf)
  have HSL := Lib.hid hs
  obtain ⟨nd, hnd⟩ : ∃ nd, ds.length = nd := ⟨_, rfl⟩
  have HN := Lib.hid hnd
  have hndm : nd ≤ maxLen := by rw [← hnd]; exact Nat.le_trans h4 h5
  unfold maxLen at hndm
  rw [hnd] at HX HBX HND
  obtain ⟨x0, x1, x2, x3⟩ := HX.out.cells
  have hbs := hb1
  clear hd hal hX hd1 hk0 ih hN hf hs hrk h1
  rw [hnd]
  go_enter Tryz.func22, Tryz.ntmps22
  go_upto_region 1 with fail
  rw [hnd] at hW1
  rw [hW1]
  clear hnd hW1
  go_wp2
  clear x0 x1 x2 x3
  go_loopw [0, 10] (fun s0 s10 wr => ∃ (j g' m' cap' : Nat), j ≤ nd ∧ s0 = .slice (some ⟨g', 0, none⟩) m' cap' ∧ s10 = .int .i64 (j : Int) ∧ Hid (KS W1 base (some g) wr g' m' cap' (l ++ wrS (ds.take j)))) (fun _ s10 _ => nd - (intOf s10).toNat)
  case atStart => exact ⟨0, g, n, cap, Nat.zero_le _, rfl, rfl, HK0⟩
  case round =>
    clear HK0
    obtain ⟨j, g', m', cap', hj, rfl, rfl, HK⟩ := hrel
    obtain ⟨w0, hw0⟩ : ∃ w0, w0 = wr := ⟨_, rfl⟩
    subst hw0
    by_cases hlt : j < nd
    · have hjl : j < ds.length := by rw [HN.out]; exact hlt
      have hjz : (j : Int) < (nd : Int) := by omega
      have zj : (0 : Int) ≤ (j : Int) := by omega
      have hkd := (HND.out w0 HK.out.2.1).kdS
      have hmlen := HK.out.len
      have hb0 : base ≤ w0.heap.size := Nat.le_trans hb1 HK.out.2.1.size
      rw [← HN.out] at hkd
      obtain ⟨b, o, e0, e1, e2, e3, hA, hbb, y0, y1, y2, y3, hnd3⟩ := hkd.kid j hjl
      obtain ⟨ek, et, ea, en, ec, eA, em, eq, rfl, rfl, rfl, rfl⟩ := hnd3.cellsOk
      subst hA
      have hst := wrS_step hjl
      have hsn := wrS_snoc hjl
      have hdl : (ds[j]'hjl ∈ ds) := List.getElem_mem hjl
      have HB9 : Hid (l.length + (wrS (ds.take (j + 1))).length ≤ 1000000) := Lib.hid (by have h1 := HSL.out; have h2 := wrS_take ds (j + 1); omega)
      have hml : m' ≤ 1000000 := by
        have h1 := HB9.out
        rw [hsn] at h1
        simp only [List.length_append] at hmlen h1
        omega
      have hbg : ∀ k, (some g : Option Nat) = some k → base ≤ k := fun k e => by injection e with e; omega
      have HNJ := Lib.hid (fun W (hW : W1.grownBy W (some g)) => NdC.keep (T := (· < base)) (w' := W) (fun b hx => ⟨hx, gro_same HK.out.2.1 hW hb1 hbg b hx⟩) _ hnd3)
      have HDJ : Hid (∀ W g2 m2 cap2 L, KS W1 base (some g) W g2 m2 cap2 L → L.length + (wrT (ds[j]'hjl)).length ≤ 1000000 →
          Calls Tryz.prog 15 #[.slice (some ⟨g2, 0, none⟩) m2 cap2, .agg #[.int .i64 ek, .string et, .slice ea en ec, .slice eA em eq]] W fun e w' => Apd W w' base (.slice (some ⟨g2, 0, none⟩) m2 cap2) (L ++ wrT (ds[j]'hjl)) e) := Lib.hid (fun W g2 m2 cap2 L h hl =>
        HIH.out _ (Nat.le_trans (cntL_mem hdl) HCN.out.1) (HCN.out.2 _ hdl) L m2 base _ _ _ _ _ W h.1 (Nat.le_trans hb1 h.2.1.size) (HNJ.out W h.2.1) hl)
      have HSN := Lib.hid hsn
      have HR0 := Lib.hid (KR.first HK.out (.int .i64 ek) (.string et) (.slice ea en ec) (.slice eA em eq))
      clear hnd3 hsn hst hmlen hkd hbb
      by_cases hj0 : j = 0
      · have hj1 : ¬ (0 : Int) < (j : Int) := by omega
        have HJ0 := Lib.hid hj0
        clear hj0
        go_upto_region 6 with fail
        generalize hW2 : w0.alloc (.cells #[.int .i64 ek, .string et, .slice ea en ec, .slice eA em eq] 25) = W2 at *
        clear hW2
        generalize w0.heap.size = gx at *
        obtain ⟨x0, x1, x2, x3⟩ := (HBX.out _ _ _ _ _ HR0.out.1).cells
        have HE9 : Hid ((l ++ wrS (ds.take j)) ++ wrT (ds[j]'hjl) = l ++ wrS (ds.take (j + 1))) := Lib.hid (by rw [HSN.out, if_pos HJ0.out]; simp)
        have HC := Lib.hid (HDJ.out _ _ _ _ _ HR0.out.1 (by rw [← List.length_append, HE9.out, List.length_append]; exact HB9.out))
        obtain ⟨q0, q1, q2, q3⟩ := HR0.out.2.1.cells
        go_wp2_with fail
        refine HC.out.mono ?_
        rintro e w9 ha
        obtain ⟨g9, m9, cap9, rfl, hk9⟩ := HR0.out.1.apd rfl ha
        rw [HE9.out] at hk9
        have HK9 := Lib.hid hk9
        clear ha hk9 HC q0 q1 q2 q3 x0 x1 x2 x3
        go_wp2
        go_roundw
        case measure => simp [intOf]; omega
        case rel => exact ⟨j + 1, g9, m9, cap9, by omega, rfl, by go_num, HK9⟩
      · have hj1 : (0 : Int) < (j : Int) := by omega
        have HJ0 := Lib.hid hj0
        clear hj0
        go_upto_region 5 with fail
        generalize hW2 : w0.alloc (.cells #[.int .i64 ek, .string et, .slice ea en ec, .slice eA em eq] 25) = W2 at *
        clear hW2
        generalize w0.heap.size = gx at *
        go_upto_region 6 with (at_builtin; refine wpList_str_lies rfl _ _ 36 9 rfl base 5 i0 Tryz.underlying36 Tryz.underlying9 hi hz0 hz1 hz2 (.slice (some ⟨g', 0, none⟩) m' cap') m' _ rfl HR0.out.1.1 ⟨#[44, 32]⟩ rfl (by have : (⟨#[44, 32]⟩ : ByteArray).size = 2 := rfl; omega) (by have : (⟨#[44, 32]⟩ : ByteArray).size = 2 := rfl; unfold maxLen; omega) (by have : (⟨#[44, 32]⟩ : ByteArray).size = 2 := rfl; omega) (HR0.out.bs hb1) ?_; intro g5 cap5 w5 ho hg hat; have HR5 := Lib.hid (HR0.out.app (x := [44, 32]) rfl rfl ho hg hat); clear ho hg hat)
        obtain ⟨x0, x1, x2, x3⟩ := (HBX.out _ _ _ _ _ HR5.out.1).cells
        have HE9 : Hid ((l ++ wrS (ds.take j)) ++ [44, 32] ++ wrT (ds[j]'hjl) = l ++ wrS (ds.take (j + 1))) := Lib.hid (by rw [HSN.out, if_neg HJ0.out]; simp)
        have HC := Lib.hid (HDJ.out _ _ _ _ _ HR5.out.1 (by rw [← List.length_append, HE9.out, List.length_append]; exact HB9.out))
        obtain ⟨q0, q1, q2, q3⟩ := HR5.out.2.1.cells
        go_wp2_with fail
        refine HC.out.mono ?_
        rintro e w9 ha
        obtain ⟨g9, m9, cap9, rfl, hk9⟩ := HR5.out.1.apd rfl ha
        rw [HE9.out] at hk9
        have HK9 := Lib.hid hk9
        clear ha hk9 HC q0 q1 q2 q3 x0 x1 x2 x3
        go_wp2
        go_roundw
        case measure => simp [intOf]; omega
        case rel => exact ⟨j + 1, g9, m9, cap9, by omega, rfl, by go_num, HK9⟩
    · obtain rfl : j = nd := by omega
      have HF := Lib.hid (show KS W1 base (some g) w0 g' m' cap' (l ++ wrS ds) by
        have h := HK.out
        rw [show ds.take j = ds from List.take_of_length_le (by rw [HN.out]; exact Nat.le_refl _)] at h
        exact h)
      clear HK
      go_wp2
      go_ret
      exact HF.out.done HAL.out rfl
set_option maxRecDepth 100000 in
set_option maxHeartbeats 8000000 in
/-- The kids of a map. -/
theorem AK_map (N : Nat) (ih : AFof N) (t : L8) (ks : List L8) (ds : List Nd) (hkl : ks.length = ds.length) (hN : cntL ds ≤ N) (hf : ∀ d ∈ ds, Fine d) (l : L8) (n base g cap : Nat) (c0 c1 c2 c3 : Value) (w : World) (ho : w.ownsRow base 5 1 (.slice (some ⟨g, 0, none⟩) n cap) n (l.map encB)) (hb : base ≤ w.heap.size) (hd : NdC (· < base) w (.mk 3 t ks ds) c0 c1 c2 c3) (hs : l.length + (wrM ks ds).length ≤ 1000000) :
    Calls Tryz.prog 22 #[.slice (some ⟨g, 0, none⟩) n cap, .agg #[c0, c1, c2, c3]] w fun e w' => Apd w w' base (.slice (some ⟨g, 0, none⟩) n cap) (l ++ wrM ks ds) e := by
  obtain ⟨i0, hi, hz0, hz1, hz2⟩ := infoB
  obtain ⟨k0, T, a, na, ca, A, mA, qA, rfl, rfl, rfl, rfl⟩ := hd.cellsOk
  have hc := hd
  rw [NdC] at hc
  obtain ⟨h0, h1, hrk, Ax, capx, h3, h4, h5, -⟩ := hc
  injection h0 with _ h0
  injection h3 with h30 h31 h32
  subst h0; subst h30; subst h31; subst h32
  obtain ⟨W1, hW1⟩ : ∃ W1, w.alloc (.cells #[.int .i64 3, .string T, .slice a na ca, .slice A ds.length qA] 25) = W1 := ⟨_, rfl⟩
  have hal : w.grownBy W1 (some g) := by rw [← hW1]; exact World.grownBy_alloc w _ _
  have hX : Row4 W1 w.heap.size 25 (.int .i64 3) (.string T) (.slice a na ca) (.slice A ds.length qA) := by rw [← hW1]; exact Row4.make w _ _ _ _ _
  have hgb := ho.lt g rfl
  have hnH : (some g : Option Nat) ≠ some w.heap.size := fun e => by injection e with e; omega
  have hb1 : base ≤ W1.heap.size := Nat.le_trans hb hal.size
  have hd1 : NdC (· < base) W1 (.mk 3 t ks ds) (.int .i64 3) (.string T) (.slice a na ca) (.slice A ds.length qA) := by
    rw [← hW1]; exact NdC.keep (fun b hx => ⟨hx, Below.heap_alloc w _ b (by have : b < base := hx; omega)⟩) _ hd
  have hk0 : KS W1 base (some g) W1 g n cap l := ⟨by rw [← hW1]; exact ho.alloc _, ⟨rfl, rfl, rfl, Nat.le_refl _, fun _ _ _ => rfl⟩, .inl rfl⟩
  have hrk1 : Rd W1 (.slice a na ca) ks := (hd1.rd (fun b hx => by have : b < base := hx; omega))
  obtain ⟨ax, cx, hax, hkc, hkm⟩ := rd_slice hrk1
  injection hax with hax0 hax1 hax2
  subst hax0; subst hax1; subst hax2
  have HAL := Lib.hid hal
  have HX := Lib.hid hX
  have HND := Lib.hid (fun W (h : W1.grownBy W (some g)) => gro_nd h hb1 (fun g' e => by injection e with e; omega) hd1)
  have HBX := Lib.hid (fun W g' m' cap' L (h : KS W1 base (some g) W g' m' cap' L) => h.box hX hnH)
  have HK0 := Lib.hid (show KS W1 base (some g) W1 g n cap (l ++ []) by rw [List.append_nil]; exact hk0)
  have HIH := Lib.hid ih
  have HCN := Lib.hid (And.intro hN hf)
  have HSL := Lib.hid hs
  obtain ⟨nd, hnd⟩ : ∃ nd, ds.length = nd := ⟨_, rfl⟩
  have HN := Lib.hid hnd
  have hndm : nd ≤ maxLen := by rw [← hnd]; exact Nat.le_trans h4 h5
  unfold maxLen at hndm
  have HM : Hid (ks.length = nd) := Lib.hid (hkl.trans hnd)
  rw [HM.out] at HX HBX HND
  rw [hnd] at HX HBX HND
  obtain ⟨x0, x1, x2, x3⟩ := HX.out.cells
  have hbs := hb1
  clear hd hal hX hd1 hk0 ih hN hf hs hrk h1 hrk1 hkl hkc
  rw [hnd]
  rw [HM.out]
  go_enter Tryz.func22, Tryz.ntmps22
  go_upto_region 1 with fail
  rw [hnd, HM.out] at hW1
  rw [hW1]
  clear hnd hW1
  go_wp2
  clear x0 x1 x2 x3
  go_loopw [0, 10] (fun s0 s10 wr => ∃ (j g' m' cap' : Nat), j ≤ nd ∧ s0 = .slice (some ⟨g', 0, none⟩) m' cap' ∧ s10 = .int .i64 (j : Int) ∧ Hid (KS W1 base (some g) wr g' m' cap' (l ++ wrM (ks.take j) (ds.take j)))) (fun _ s10 _ => nd - (intOf s10).toNat)
  case atStart => exact ⟨0, g, n, cap, Nat.zero_le _, rfl, rfl, Lib.hid (by rw [List.take_zero, List.take_zero, show wrM [] [] = [] by rw [wrM]; intros; contradiction]; exact HK0.out)⟩
  case round =>
    clear HK0
    obtain ⟨j, g', m', cap', hj, rfl, rfl, HK⟩ := hrel
    obtain ⟨w0, hw0⟩ : ∃ w0, w0 = wr := ⟨_, rfl⟩
    subst hw0
    by_cases hlt : j < nd
    · have hjl : j < ds.length := by rw [HN.out]; exact hlt
      have hjz : (j : Int) < (nd : Int) := by omega
      have zj : (0 : Int) ≤ (j : Int) := by omega
      have hkd := (HND.out w0 HK.out.2.1).kdS
      have hmlen := HK.out.len
      have hb0 : base ≤ w0.heap.size := Nat.le_trans hb1 HK.out.2.1.size
      rw [← HN.out] at hkd
      obtain ⟨b, o, e0, e1, e2, e3, hA, hbb, y0, y1, y2, y3, hnd3⟩ := hkd.kid j hjl
      obtain ⟨ek, et, ea, en, ec, eA, em, eq, rfl, rfl, rfl, rfl⟩ := hnd3.cellsOk
      subst hA
      have hjk : j < ks.length := by rw [HM.out]; exact hlt
      have hrk := (HND.out w0 HK.out.2.1).rdS
      obtain ⟨kb, ko, hka, hkb, z0⟩ := rdS_at hrk j hjk
      subst hka
      obtain ⟨K, hK⟩ : ∃ K, ba (ks[j]'hjk) = K := ⟨_, rfl⟩
      have hKl : K.data.toList = ks[j]'hjk := by rw [← hK, ba_data]
      rw [hK] at z0
      obtain ⟨Z, hZ⟩ : ∃ Z, ba (wtx (ks[j]'hjk)) = Z := ⟨_, rfl⟩
      have hZl : Z.data.toList = wtx (ks[j]'hjk) := by rw [← hZ, ba_data]
      have hst := wrM_step hjk hjl
      have hsn := wrM_snoc hjk hjl
      have hge := wtx_ge (ks[j]'hjk)
      have hdl : (ds[j]'hjl ∈ ds) := List.getElem_mem hjl
      have HB9 : Hid (l.length + (wrM (ks.take (j + 1)) (ds.take (j + 1))).length ≤ 1000000) := Lib.hid (by have h1 := HSL.out; have h2 := wrM_take ks ds (j + 1); omega)
      have hml : m' ≤ 1000000 := by
        have h1 := HB9.out
        rw [hsn] at h1
        simp only [List.length_append] at hmlen h1
        omega
      have hbg : ∀ k, (some g : Option Nat) = some k → base ≤ k := fun k e => by injection e with e; omega
      have HNJ := Lib.hid (fun W (hW : W1.grownBy W (some g)) => NdC.keep (T := (· < base)) (w' := W) (fun b hx => ⟨hx, gro_same HK.out.2.1 hW hb1 hbg b hx⟩) _ hnd3)
      have HDJ : Hid (∀ W g2 m2 cap2 L, KS W1 base (some g) W g2 m2 cap2 L → L.length + (wrT (ds[j]'hjl)).length ≤ 1000000 →
          Calls Tryz.prog 15 #[.slice (some ⟨g2, 0, none⟩) m2 cap2, .agg #[.int .i64 ek, .string et, .slice ea en ec, .slice eA em eq]] W fun e w' => Apd W w' base (.slice (some ⟨g2, 0, none⟩) m2 cap2) (L ++ wrT (ds[j]'hjl)) e) := Lib.hid (fun W g2 m2 cap2 L h hl =>
        HIH.out _ (Nat.le_trans (cntL_mem hdl) HCN.out.1) (HCN.out.2 _ hdl) L m2 base _ _ _ _ _ W h.1 (Nat.le_trans hb1 h.2.1.size) (HNJ.out W h.2.1) hl)
      have HKC := Lib.hid (fun W (hW : W1.grownBy W (some g)) => (World.cell?_of_block (a := ⟨kb, ko + j, none⟩) (gro_same HK.out.2.1 hW hb1 hbg kb hkb)).trans z0)
      have HWR := Lib.hid (fun W => Write_any K true W (by rw [size_of_list hKl]; have h1 := HB9.out; rw [hsn] at h1; simp only [List.length_append] at h1; omega) Z (by rw [hKl, wtx_write, hZl]))
      have hZs : Z.size = (wtx (ks[j]'hjk)).length := size_of_list hZl
      have HZL := Lib.hid hZl
      have hzl : Z.size ≤ 1000000 := by rw [hZs]; have h1 := HB9.out; rw [hsn] at h1; simp only [List.length_append] at h1; omega
      have hzp : 0 < Z.size := by
        obtain ⟨c, r, hcr, -⟩ := wtx_first (ks[j]'hjk)
        rw [hZs, hcr, List.length_cons]; omega
      have HSN := Lib.hid hsn
      have HR0 := Lib.hid (KR.first HK.out (.int .i64 ek) (.string et) (.slice ea en ec) (.slice eA em eq))
      clear hnd3 hsn hst hmlen hkd hbb hrk hK hKl hZ hZl z0 hge hZs
      by_cases hj0 : j = 0
      · have hj1 : ¬ (0 : Int) < (j : Int) := by omega
        have HJ0 := Lib.hid hj0
        clear hj0
        go_upto_region 6 with fail
        generalize hW2 : w0.alloc (.cells #[.int .i64 ek, .string et, .slice ea en ec, .slice eA em eq] 25) = W2 at *
        clear hW2
        generalize w0.heap.size = gx at *
        obtain ⟨x0, x1, x2, x3⟩ := (HBX.out _ _ _ _ _ HR0.out.1).cells
        have kc := HKC.out _ HR0.out.1.2.1
        go_wp2_with fail
        refine (HWR.out _).mono ?_
        rintro e w6 ⟨rfl, hb6⟩
        have HR6 := Lib.hid (HR0.out.below hb6)
        clear hb6 x0 x1 x2 x3 kc
        go_upto_region 8 with (at_builtin; refine wpList_str_lies rfl _ _ 36 9 rfl base 5 i0 Tryz.underlying36 Tryz.underlying9 hi hz0 hz1 hz2 (.slice (some ⟨g', 0, none⟩) m' cap') m' _ rfl HR6.out.1.1 Z rfl (by have : (⟨#[44, 32]⟩ : ByteArray).size = 2 := rfl; omega) (by have : (⟨#[44, 32]⟩ : ByteArray).size = 2 := rfl; unfold maxLen; omega) (by have : (⟨#[44, 32]⟩ : ByteArray).size = 2 := rfl; omega) (HR6.out.bs hb1) ?_; intro g7 cap7 w7 ho hg hat; have HR7 := Lib.hid (HR6.out.app (x := (wtx (ks[j]'hjk))) rfl (by rw [str_enc, HZL.out]) ho hg hat); clear ho hg hat)
        go_upto_region 9 with (at_builtin; refine wpList_str_lies rfl _ _ 36 9 rfl base 5 i0 Tryz.underlying36 Tryz.underlying9 hi hz0 hz1 hz2 (.slice (some ⟨g7, 0, none⟩) (m' + Z.size) cap7) (m' + Z.size) _ rfl HR7.out.1.1 ⟨#[58, 32]⟩ rfl (by have h44 : (⟨#[44, 32]⟩ : ByteArray).size = 2 := rfl; have : (⟨#[58, 32]⟩ : ByteArray).size = 2 := rfl; omega) (by have h44 : (⟨#[44, 32]⟩ : ByteArray).size = 2 := rfl; have : (⟨#[58, 32]⟩ : ByteArray).size = 2 := rfl; unfold maxLen; omega) (by have h44 : (⟨#[44, 32]⟩ : ByteArray).size = 2 := rfl; have : (⟨#[58, 32]⟩ : ByteArray).size = 2 := rfl; omega) (HR7.out.bs hb1) ?_; intro g8 cap8 w8 ho hg hat; have HR8 := Lib.hid (HR7.out.app (x := [58, 32]) rfl rfl ho hg hat); clear ho hg hat)
        have HE9 : Hid ((l ++ wrM (ks.take j) (ds.take j)) ++ wtx (ks[j]'hjk) ++ [58, 32] ++ wrT (ds[j]'hjl) = l ++ wrM (ks.take (j + 1)) (ds.take (j + 1))) := Lib.hid (by rw [HSN.out, if_pos HJ0.out]; simp)
        have HC := Lib.hid (HDJ.out _ _ _ _ _ HR8.out.1 (by rw [← List.length_append, HE9.out, List.length_append]; exact HB9.out))
        obtain ⟨q0, q1, q2, q3⟩ := HR8.out.2.1.cells
        go_wp2_with fail
        refine HC.out.mono ?_
        rintro e w9 ha
        obtain ⟨g9, m9, cap9, rfl, hk9⟩ := HR8.out.1.apd rfl ha
        rw [HE9.out] at hk9
        have HK9 := Lib.hid hk9
        clear ha hk9 HC q0 q1 q2 q3
        go_wp2
        go_roundw
        case measure => simp [intOf]; omega
        case rel => exact ⟨j + 1, g9, m9, cap9, by omega, rfl, by go_num, HK9⟩
      · have hj1 : (0 : Int) < (j : Int) := by omega
        have HJ0 := Lib.hid hj0
        clear hj0
        go_upto_region 5 with fail
        generalize hW2 : w0.alloc (.cells #[.int .i64 ek, .string et, .slice ea en ec, .slice eA em eq] 25) = W2 at *
        clear hW2
        generalize w0.heap.size = gx at *
        go_upto_region 6 with (at_builtin; refine wpList_str_lies rfl _ _ 36 9 rfl base 5 i0 Tryz.underlying36 Tryz.underlying9 hi hz0 hz1 hz2 (.slice (some ⟨g', 0, none⟩) m' cap') m' _ rfl HR0.out.1.1 ⟨#[44, 32]⟩ rfl (by have : (⟨#[44, 32]⟩ : ByteArray).size = 2 := rfl; omega) (by have : (⟨#[44, 32]⟩ : ByteArray).size = 2 := rfl; unfold maxLen; omega) (by have : (⟨#[44, 32]⟩ : ByteArray).size = 2 := rfl; omega) (HR0.out.bs hb1) ?_; intro g5 cap5 w5 ho hg hat; have HR5 := Lib.hid (HR0.out.app (x := [44, 32]) rfl rfl ho hg hat); clear ho hg hat)
        obtain ⟨x0, x1, x2, x3⟩ := (HBX.out _ _ _ _ _ HR5.out.1).cells
        have kc := HKC.out _ HR5.out.1.2.1
        go_wp2_with fail
        refine (HWR.out _).mono ?_
        rintro e w6 ⟨rfl, hb6⟩
        have HR6 := Lib.hid (HR5.out.below hb6)
        clear hb6 x0 x1 x2 x3 kc
        go_upto_region 8 with (at_builtin; refine wpList_str_lies rfl _ _ 36 9 rfl base 5 i0 Tryz.underlying36 Tryz.underlying9 hi hz0 hz1 hz2 (.slice (some ⟨g5, 0, none⟩) (m' + (⟨#[44, 32]⟩ : ByteArray).size) cap5) (m' + (⟨#[44, 32]⟩ : ByteArray).size) _ rfl HR6.out.1.1 Z rfl (by have : (⟨#[44, 32]⟩ : ByteArray).size = 2 := rfl; omega) (by have : (⟨#[44, 32]⟩ : ByteArray).size = 2 := rfl; unfold maxLen; omega) (by have : (⟨#[44, 32]⟩ : ByteArray).size = 2 := rfl; omega) (HR6.out.bs hb1) ?_; intro g7 cap7 w7 ho hg hat; have HR7 := Lib.hid (HR6.out.app (x := (wtx (ks[j]'hjk))) rfl (by rw [str_enc, HZL.out]) ho hg hat); clear ho hg hat)
        go_upto_region 9 with (at_builtin; refine wpList_str_lies rfl _ _ 36 9 rfl base 5 i0 Tryz.underlying36 Tryz.underlying9 hi hz0 hz1 hz2 (.slice (some ⟨g7, 0, none⟩) ((m' + (⟨#[44, 32]⟩ : ByteArray).size) + Z.size) cap7) ((m' + (⟨#[44, 32]⟩ : ByteArray).size) + Z.size) _ rfl HR7.out.1.1 ⟨#[58, 32]⟩ rfl (by have h44 : (⟨#[44, 32]⟩ : ByteArray).size = 2 := rfl; have : (⟨#[58, 32]⟩ : ByteArray).size = 2 := rfl; omega) (by have h44 : (⟨#[44, 32]⟩ : ByteArray).size = 2 := rfl; have : (⟨#[58, 32]⟩ : ByteArray).size = 2 := rfl; unfold maxLen; omega) (by have h44 : (⟨#[44, 32]⟩ : ByteArray).size = 2 := rfl; have : (⟨#[58, 32]⟩ : ByteArray).size = 2 := rfl; omega) (HR7.out.bs hb1) ?_; intro g8 cap8 w8 ho hg hat; have HR8 := Lib.hid (HR7.out.app (x := [58, 32]) rfl rfl ho hg hat); clear ho hg hat)
        have HE9 : Hid ((l ++ wrM (ks.take j) (ds.take j)) ++ [44, 32] ++ wtx (ks[j]'hjk) ++ [58, 32] ++ wrT (ds[j]'hjl) = l ++ wrM (ks.take (j + 1)) (ds.take (j + 1))) := Lib.hid (by rw [HSN.out, if_neg HJ0.out]; simp)
        have HC := Lib.hid (HDJ.out _ _ _ _ _ HR8.out.1 (by rw [← List.length_append, HE9.out, List.length_append]; exact HB9.out))
        obtain ⟨q0, q1, q2, q3⟩ := HR8.out.2.1.cells
        go_wp2_with fail
        refine HC.out.mono ?_
        rintro e w9 ha
        obtain ⟨g9, m9, cap9, rfl, hk9⟩ := HR8.out.1.apd rfl ha
        rw [HE9.out] at hk9
        have HK9 := Lib.hid hk9
        clear ha hk9 HC q0 q1 q2 q3
        go_wp2
        go_roundw
        case measure => simp [intOf]; omega
        case rel => exact ⟨j + 1, g9, m9, cap9, by omega, rfl, by go_num, HK9⟩
    · obtain rfl : j = nd := by omega
      have HF := Lib.hid (show KS W1 base (some g) w0 g' m' cap' (l ++ wrM ks ds) by
        have h := HK.out
        rw [show ks.take j = ks from List.take_of_length_le (by rw [HM.out]; exact Nat.le_refl _), show ds.take j = ds from List.take_of_length_le (by rw [HN.out]; exact Nat.le_refl _)] at h
        exact h)
      clear HK
      go_wp2
      go_ret
      exact HF.out.done HAL.out rfl
end Go.Proofs.YtemndagaicamiaaGreatDoor
