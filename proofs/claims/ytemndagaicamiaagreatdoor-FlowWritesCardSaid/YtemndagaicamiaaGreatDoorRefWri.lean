/- The contracts of the document's own text and Write. -/
import Derived.Test.YtemndagaicamiaaGreatDoorMergeM
import Derived.Test.YtemndagaicamiaaGreatDoorRefNod2
import Derived.Test.YtemndagaicamiaaGreatDoorRefPlain
import Derived.Test.YtemndagaicamiaaGreatDoorRefQuote
namespace Go.Proofs.YtemndagaicamiaaGreatDoor
open Go.RowKit Go.Sort
open Nw N8 Q6 F9
set_option linter.unusedVariables false
theorem bytes_app (x y : ByteArray) : (x ++ y).data.toList = x.data.toList ++ y.data.toList := by rw [ByteArray.data_append, Array.toList_append]
theorem size_of_list {x : ByteArray} {l : L8} (h : x.data.toList = l) : x.size = l.length := by
  show x.data.size = _
  rw [← h, Array.length_toList]
theorem ret_str {a b : ByteArray} (h : a.data.toList = b.data.toList) : Ending.returned (.string a) = .returned (.string b) := by
  have : a = b := by rw [← ba_of a, ← ba_of b, h]
  rw [this]
set_option maxHeartbeats 4000000 in
theorem Rtext_any (s : ByteArray) (w : World) (hs : s.size ≤ 1000000) (q : ByteArray) (hq : wtx s.data.toList = q.data.toList) :
    Calls Tryz.prog 16 #[.string s] w fun e w' => e = .returned (.string q) ∧ Below w.heap.size w w' := by
  have HQ := Lib.hid hq
  cases hr : rowB s.data.toList with
  | true =>
    have HE : Hid (s.data.toList = q.data.toList) := Lib.hid (by rw [← HQ.out]; unfold wtx; rw [hr]; rfl)
    have HR := Lib.hid (RRow_q s true w (by omega) hr)
    clear hr hq
    go_enter Tryz.func16, Tryz.ntmps16
    go_wp2_with fail
    refine HR.out.mono ?_
    rintro e w1 ⟨rfl, rfl⟩
    go_wp2
    go_ret
    exact ⟨ret_str HE.out, Below.refl _ _⟩
  | false =>
    have HD := Lib.hid (RDouble_any s w hs q (by rw [← hq]; unfold wtx; rw [hr]; rfl))
    have HR := Lib.hid (RRow_q s false w (by omega) hr)
    clear hr hq
    go_enter Tryz.func16, Tryz.ntmps16
    go_wp2_with fail
    refine HR.out.mono ?_
    rintro e w1 ⟨rfl, rfl⟩
    go_wp2_with fail
    refine HD.out.mono ?_
    rintro e w2 ⟨rfl, hb⟩
    go_wp2
    go_ret
    exact ⟨rfl, hb⟩
def RWriOf (N : Nat) : Prop := ∀ (d : Nd), cntT d ≤ N → Fine d → (wrT d).length ≤ 1000000 → ∀ (c0 c1 c2 c3 : Value) (w : World), NdW w d c0 c1 c2 c3 → ∀ (q : ByteArray), wrT d = q.data.toList →
    Calls Tryz.prog 8 #[.agg #[c0, c1, c2, c3]] w fun e w' => e = .returned (.string q) ∧ Below w.heap.size w w'
set_option maxRecDepth 100000 in
set_option maxHeartbeats 8000000 in
theorem RWrite_leaf (k : Int) (t : L8) (ks : List L8) (ds : List Nd) (hk : k = 0 ∨ k = 1) (ht : t.length ≤ 1000000) (c0 c1 c2 c3 : Value) (w : World) (hd : NdW w (.mk k t ks ds) c0 c1 c2 c3) (q : ByteArray) (hq : wrT (.mk k t ks ds) = q.data.toList) :
    Calls Tryz.prog 8 #[.agg #[c0, c1, c2, c3]] w fun e w' => e = .returned (.string q) ∧ Below w.heap.size w w' := by
  have HB := Lib.hid (Boxed.make hd)
  obtain ⟨rfl, rfl, _, A, cap, rfl, _⟩ := hd.parts
  obtain ⟨T, hT⟩ : ∃ T, ba t = T := ⟨_, rfl⟩
  have hTt : T.data.toList = t := by rw [← hT, ba_data]
  rw [hT] at HB ⊢
  obtain ⟨x0, x1, x2, x3⟩ := HB.out.2.1.cells
  rcases hk with rfl | rfl
  · have HQ : Hid ((⟨#[110, 117, 108, 108]⟩ : ByteArray).data.toList = q.data.toList) := Lib.hid (by rw [← hq, wrT, if_pos rfl])
    clear hd hT hTt hq
    go_enter Tryz.func8, Tryz.ntmps8
    go_wp2
    go_ret
    exact ⟨ret_str HQ.out, HB.out.1⟩
  · have HT := Lib.hid (fun W => Rtext_any T W (by rw [size_of_list hTt]; exact ht) q (by rw [← hq, wrT, if_neg (by decide), if_pos rfl, hTt]))
    clear hd hT hTt hq
    go_enter Tryz.func8, Tryz.ntmps8
    go_wp2_with fail
    refine (HT.out _).mono ?_
    rintro e w1 ⟨rfl, hb⟩
    go_wp2
    go_ret
    exact ⟨rfl, (HB.out.go hb).1⟩
/-- A comma ahead, but for the first. -/
def sepL (j : Nat) : L8 := if j = 0 then [] else [44, 32]
set_option maxRecDepth 100000 in
set_option maxHeartbeats 8000000 in
theorem RWrite_seq (N : Nat) (ih : RWriOf N) (t : L8) (ks : List L8) (ds : List Nd) (hN : cntL ds ≤ N) (hf : ∀ d ∈ ds, Fine d) (hs : (wrT (.mk 2 t ks ds)).length ≤ 1000000) (c0 c1 c2 c3 : Value) (w : World) (hd : NdW w (.mk 2 t ks ds) c0 c1 c2 c3) (q : ByteArray) (hq : wrT (.mk 2 t ks ds) = q.data.toList) :
    Calls Tryz.prog 8 #[.agg #[c0, c1, c2, c3]] w fun e w' => e = .returned (.string q) ∧ Below w.heap.size w w' := by
  have HB0 := Lib.hid (Boxed.make hd)
  obtain ⟨rfl, rfl, _, A, cap, rfl, hcap, hcm, _⟩ := hd.parts
  rw [wrT_seq] at hs hq
  have hsl : (wrS ds).length + 2 ≤ 1000000 := by
    simp only [List.length_append, List.length_cons, List.length_nil] at hs
    omega
  have HQ := Lib.hid hq
  obtain ⟨T, hT⟩ : ∃ T, ba t = T := ⟨_, rfl⟩
  rw [hT] at HB0 ⊢
  obtain ⟨n, hn⟩ : ∃ n, ds.length = n := ⟨_, rfl⟩
  have HN := Lib.hid hn
  rw [hn] at HB0 hcap ⊢
  unfold maxLen at hcm
  have HIH := Lib.hid ih
  have HCN := Lib.hid (And.intro hN hf)
  have HSL := Lib.hid hsl
  obtain ⟨x0, x1, x2, x3⟩ := HB0.out.2.1.cells
  clear hd hs hq hsl hT hn ih hN hf
  go_enter Tryz.func8, Tryz.ntmps8
  go_wp2
  clear x0 x1 x2 x3
  go_loopw [3, 4] (fun s3 s4 wr => ∃ (j : Nat) (O : ByteArray), j ≤ n ∧ s3 = .string O ∧ s4 = .int .i64 (j : Int) ∧ Hid (O.data.toList = 91 :: wrS (ds.take j)) ∧ Hid (Boxed w wr (.mk 2 t ks ds) (.int .i64 2) (.string T) c2 (.slice A n cap))) (fun _ s4 _ => n - (intOf s4).toNat)
  case atStart => exact ⟨0, ⟨#[91]⟩, Nat.zero_le _, rfl, rfl, Lib.hid rfl, HB0⟩
  case round =>
    clear HB0
    obtain ⟨j, O, hj, rfl, rfl, HO, HB⟩ := hrel
    obtain ⟨x0, x1, x2, x3⟩ := HB.out.2.1.cells
    by_cases hlt : j < n
    · have hjl : j < ds.length := by rw [HN.out]; exact hlt
      have hjz : (j : Int) < (n : Int) := by omega
      obtain ⟨b, o, e0, e1, e2, e3, rfl, hb, y0, y1, y2, y3, hnd⟩ := HB.out.2.2.kid j hjl
      obtain ⟨P, hP⟩ : ∃ P, ba (wrT (ds[j]'hjl)) = P := ⟨_, rfl⟩
      have hPl : P.data.toList = wrT (ds[j]'hjl) := by rw [← hP, ba_data]
      have hst := wrS_step hjl
      have HR := Lib.hid (HIH.out (ds[j]'hjl) (Nat.le_trans (cntL_mem (List.getElem_mem hjl)) HCN.out.1) (HCN.out.2 _ (List.getElem_mem hjl)) (by have := HSL.out; omega) e0 e1 e2 e3 wr hnd P hPl.symm)
      have hO : O.size ≤ 1000000 := by rw [size_of_list HO.out, List.length_cons]; have := HSL.out; omega
      have hPs : P.size ≤ 1000000 := by rw [size_of_list hPl]; have := HSL.out; omega
      have HSN := Lib.hid (wrS_snoc hjl)
      have HPL := Lib.hid hPl
      clear hnd hP hPl hst
      by_cases hj0 : j = 0
      · have hj1 : ¬ (0 : Int) < (j : Int) := by omega
        have HJ0 := Lib.hid hj0
        clear hj0
        have HO2 : Hid ((O ++ P).data.toList = 91 :: wrS (ds.take (j + 1))) := Lib.hid (by rw [bytes_app, HO.out, HSN.out, HPL.out, if_pos HJ0.out]; rfl)
        go_wp2_with (go_at_call 8; refine HR.out.mono ?_; rintro e w2 ⟨rfl, hb2⟩)
        have HB2 := Lib.hid (HB.out.go hb2)
        clear hb2
        go_roundw
        case measure => simp [intOf]; omega
        case rel => exact ⟨j + 1, _, by omega, rfl, by go_num, HO2, HB2⟩
      · have hj1 : (0 : Int) < (j : Int) := by omega
        have HO2 : Hid ((O ++ ⟨#[44, 32]⟩ ++ P).data.toList = 91 :: wrS (ds.take (j + 1))) := Lib.hid (by rw [bytes_app, bytes_app, HO.out, HSN.out, HPL.out, if_neg hj0]; simp)
        go_wp2_with (go_at_call 8; refine HR.out.mono ?_; rintro e w2 ⟨rfl, hb2⟩)
        have HB2 := Lib.hid (HB.out.go hb2)
        clear hb2
        go_roundw
        case measure => simp [intOf]; omega
        case rel => exact ⟨j + 1, _, by omega, rfl, by go_num, HO2, HB2⟩
    · obtain rfl : j = n := by omega
      have HE : Hid ((O ++ ⟨#[93]⟩).data.toList = q.data.toList) := Lib.hid (by rw [bytes_app, HO.out, List.take_of_length_le (by rw [HN.out]; exact Nat.le_refl _), ← HQ.out])
      have hO : O.size ≤ 1000000 := by rw [size_of_list HO.out, List.length_cons]; have := HSL.out; have := wrS_take ds j; omega
      go_wp2
      go_ret
      exact ⟨ret_str HE.out, HB.out.1⟩
set_option maxRecDepth 100000 in
set_option maxHeartbeats 8000000 in
theorem RWrite_map (N : Nat) (ih : RWriOf N) (t : L8) (ks : List L8) (ds : List Nd) (hl : ks.length = ds.length) (hN : cntL ds ≤ N) (hf : ∀ d ∈ ds, Fine d) (hs : (wrT (.mk 3 t ks ds)).length ≤ 1000000) (c0 c1 c2 c3 : Value) (w : World) (hd : NdW w (.mk 3 t ks ds) c0 c1 c2 c3) (q : ByteArray) (hq : wrT (.mk 3 t ks ds) = q.data.toList) :
    Calls Tryz.prog 8 #[.agg #[c0, c1, c2, c3]] w fun e w' => e = .returned (.string q) ∧ Below w.heap.size w w' := by
  have HB0 := Lib.hid (Boxed.make hd)
  obtain ⟨rfl, rfl, hks, A, cap, rfl, hcap, hcm, _⟩ := hd.parts
  obtain ⟨a, kcap, rfl, hkc, hkm⟩ := rd_slice hks
  rw [wrT_map] at hs hq
  have hsl : (wrM ks ds).length + 2 ≤ 1000000 := by
    simp only [List.length_append, List.length_cons, List.length_nil] at hs
    omega
  have HQ := Lib.hid hq
  obtain ⟨T, hT⟩ : ∃ T, ba t = T := ⟨_, rfl⟩
  rw [hT] at HB0 ⊢
  obtain ⟨n, hn⟩ : ∃ n, ds.length = n := ⟨_, rfl⟩
  have HN := Lib.hid hn
  have HM : Hid (ks.length = n) := Lib.hid (by rw [hl, hn])
  rw [hn, HM.out] at HB0 ⊢
  rw [hn] at hcap
  rw [HM.out] at hkc
  unfold maxLen at hcm hkm
  have HIH := Lib.hid ih
  have HCN := Lib.hid (And.intro hN hf)
  have HSL := Lib.hid hsl
  obtain ⟨x0, x1, x2, x3⟩ := HB0.out.2.1.cells
  clear hd hs hq hsl hT hn ih hN hf hks hl
  go_enter Tryz.func8, Tryz.ntmps8
  go_wp2
  clear x0 x1 x2 x3
  go_loopw [3, 4] (fun s3 s4 wr => ∃ (j : Nat) (O : ByteArray), j ≤ n ∧ s3 = .string O ∧ s4 = .int .i64 (j : Int) ∧ Hid (O.data.toList = 123 :: wrM (ks.take j) (ds.take j)) ∧ Hid (Boxed w wr (.mk 3 t ks ds) (.int .i64 3) (.string T) (.slice a n kcap) (.slice A n cap))) (fun _ s4 _ => n - (intOf s4).toNat)
  case atStart => exact ⟨0, ⟨#[123]⟩, Nat.zero_le _, rfl, rfl, Lib.hid (by rw [List.take_zero, List.take_zero, show wrM [] [] = [] by rw [wrM]; intros; contradiction]), HB0⟩
  case round =>
    clear HB0
    obtain ⟨j, O, hj, rfl, rfl, HO, HB⟩ := hrel
    obtain ⟨x0, x1, x2, x3⟩ := HB.out.2.1.cells
    by_cases hlt : j < n
    · have hjl : j < ds.length := by rw [HN.out]; exact hlt
      have hjk : j < ks.length := by rw [HM.out]; exact hlt
      have hjz : (j : Int) < (n : Int) := by omega
      obtain ⟨kb, ko, rfl, hkb, z0⟩ := rd_at HB.out.2.2.parts.2.2.1 j hjk
      obtain ⟨b, o, e0, e1, e2, e3, rfl, hb, y0, y1, y2, y3, hnd⟩ := HB.out.2.2.kid j hjl
      obtain ⟨K, hK⟩ : ∃ K, ba (ks[j]'hjk) = K := ⟨_, rfl⟩
      have hKl : K.data.toList = ks[j]'hjk := by rw [← hK, ba_data]
      rw [hK] at z0
      obtain ⟨Z, hZ⟩ : ∃ Z, ba (wtx (ks[j]'hjk)) = Z := ⟨_, rfl⟩
      have hZl : Z.data.toList = wtx (ks[j]'hjk) := by rw [← hZ, ba_data]
      obtain ⟨P, hP⟩ : ∃ P, ba (wrT (ds[j]'hjl)) = P := ⟨_, rfl⟩
      have hPl : P.data.toList = wrT (ds[j]'hjl) := by rw [← hP, ba_data]
      have hst := wrM_step hjk hjl
      have hge := wtx_ge (ks[j]'hjk)
      have HTX := Lib.hid (Rtext_any K wr (by rw [size_of_list hKl]; have := HSL.out; omega) Z (by rw [hKl, hZl]))
      have HR := Lib.hid (fun W (hW : Below wr.heap.size wr W) => HIH.out (ds[j]'hjl) (Nat.le_trans (cntL_mem (List.getElem_mem hjl)) HCN.out.1) (HCN.out.2 _ (List.getElem_mem hjl)) (by have := HSL.out; omega) e0 e1 e2 e3 W (hnd.below hW) P hPl.symm)
      have hO : O.size ≤ 1000000 := by rw [size_of_list HO.out, List.length_cons]; have := HSL.out; omega
      have hPs : P.size ≤ 1000000 := by rw [size_of_list hPl]; have := HSL.out; omega
      have hZs : Z.size ≤ 1000000 := by rw [size_of_list hZl]; have := HSL.out; omega
      have HSN := Lib.hid (wrM_snoc hjk hjl)
      have HPL := Lib.hid hPl
      have HZL := Lib.hid hZl
      have HY := Lib.hid (And.intro (And.intro y0 y1) (And.intro y2 y3))
      have HHB := Lib.hid hb
      clear hnd hP hPl hst hge hK hKl hZ hZl
      by_cases hj0 : j = 0
      · have hj1 : ¬ (0 : Int) < (j : Int) := by omega
        have HJ0 := Lib.hid hj0
        clear hj0
        have HO2 : Hid ((O ++ Z ++ ⟨#[58, 32]⟩ ++ P).data.toList = 123 :: wrM (ks.take (j + 1)) (ds.take (j + 1))) := Lib.hid (by rw [bytes_app, bytes_app, bytes_app, HO.out, HSN.out, HPL.out, HZL.out, if_pos HJ0.out]; simp)
        go_wp2_with fail
        refine HTX.out.mono ?_
        rintro e w2 ⟨rfl, hb1⟩
        have HB1 := Lib.hid (HB.out.go hb1)
        have HR1 := Lib.hid (HR.out w2 hb1)
        have v0 := (hb1.cell (p := ⟨b, o + j * 4, none⟩) HHB.out).trans HY.out.1.1
        have v1 := (hb1.cell (p := ⟨b, o + j * 4 + 1, none⟩) HHB.out).trans HY.out.1.2
        have v2 := (hb1.cell (p := ⟨b, o + j * 4 + 2, none⟩) HHB.out).trans HY.out.2.1
        have v3 := (hb1.cell (p := ⟨b, o + j * 4 + 3, none⟩) HHB.out).trans HY.out.2.2
        obtain ⟨x0, x1, x2, x3⟩ := HB1.out.2.1.cells
        clear hb1 HTX HR
        go_wp2_with (go_at_call 8; refine HR1.out.mono ?_; rintro e w3 ⟨rfl, hb2⟩)
        have HB2 := Lib.hid (HB1.out.go hb2)
        clear hb2
        go_roundw
        case measure => simp [intOf]; omega
        case rel => exact ⟨j + 1, _, by omega, rfl, by go_num, HO2, HB2⟩
      · have hj1 : (0 : Int) < (j : Int) := by omega
        have HO2 : Hid ((O ++ ⟨#[44, 32]⟩ ++ Z ++ ⟨#[58, 32]⟩ ++ P).data.toList = 123 :: wrM (ks.take (j + 1)) (ds.take (j + 1))) := Lib.hid (by rw [bytes_app, bytes_app, bytes_app, bytes_app, HO.out, HSN.out, HPL.out, HZL.out, if_neg hj0]; simp)
        go_wp2_with fail
        refine HTX.out.mono ?_
        rintro e w2 ⟨rfl, hb1⟩
        have HB1 := Lib.hid (HB.out.go hb1)
        have HR1 := Lib.hid (HR.out w2 hb1)
        have v0 := (hb1.cell (p := ⟨b, o + j * 4, none⟩) HHB.out).trans HY.out.1.1
        have v1 := (hb1.cell (p := ⟨b, o + j * 4 + 1, none⟩) HHB.out).trans HY.out.1.2
        have v2 := (hb1.cell (p := ⟨b, o + j * 4 + 2, none⟩) HHB.out).trans HY.out.2.1
        have v3 := (hb1.cell (p := ⟨b, o + j * 4 + 3, none⟩) HHB.out).trans HY.out.2.2
        obtain ⟨x0, x1, x2, x3⟩ := HB1.out.2.1.cells
        clear hb1 HTX HR
        go_wp2_with (go_at_call 8; refine HR1.out.mono ?_; rintro e w3 ⟨rfl, hb2⟩)
        have HB2 := Lib.hid (HB1.out.go hb2)
        clear hb2
        go_roundw
        case measure => simp [intOf]; omega
        case rel => exact ⟨j + 1, _, by omega, rfl, by go_num, HO2, HB2⟩
    · obtain rfl : j = n := by omega
      have HE : Hid ((O ++ ⟨#[125]⟩).data.toList = q.data.toList) := Lib.hid (by rw [bytes_app, HO.out, show ds.take j = ds from List.take_of_length_le (by rw [HN.out]; exact Nat.le_refl _), show ks.take j = ks from List.take_of_length_le (by rw [HM.out]; exact Nat.le_refl _), ← HQ.out])
      have hO : O.size ≤ 1000000 := by rw [size_of_list HO.out, List.length_cons]; have := HSL.out; have := wrM_take ks ds j; omega
      go_wp2
      go_ret
      exact ⟨ret_str HE.out, HB.out.1⟩
theorem RWrite_any (N : Nat) : RWriOf N := by
  induction N with
  | zero => intro d h; have := cntT_pos d; omega
  | succ N ih =>
    intro d hN hf hs c0 c1 c2 c3 w hd q hq
    cases d with
    | mk k t ks ds =>
      rw [cntT] at hN
      obtain ⟨⟨h0, h3⟩, -, -, -, hdd⟩ := fine_in hf
      by_cases hk : k = 0 ∨ k = 1
      · refine RWrite_leaf k t ks ds hk ?_ c0 c1 c2 c3 w hd q hq
        rcases hk with rfl | rfl
        · rw [(fine_in hf).2.1 (by decide)]; exact Nat.zero_le _
        · rw [wrT, if_neg (by decide), if_pos rfl] at hs
          have := wtx_ge t
          omega
      · by_cases hk3 : k = 3
        · subst hk3
          have hl : ks.length = ds.length := by
            cases hf with
            | mk _ _ _ hk _ => exact (hk rfl).1
          exact RWrite_map N ih t ks ds hl (by omega) hdd hs c0 c1 c2 c3 w hd q hq
        · obtain rfl : k = 2 := by omega
          exact RWrite_seq N ih t ks ds (by omega) hdd hs c0 c1 c2 c3 w hd q hq
end Go.Proofs.YtemndagaicamiaaGreatDoor
