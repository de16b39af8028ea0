/- The contract of the program's replaced, at any node. The contract of the program's Each, with NodeEach's closure. -/
import Derived.Test.YtgingebdoppdbaaNodRepl2
import Derived.Test.YtgingebdoppdbaaNodForm
namespace Go.Proofs.Ytgingebdoppdbaa
open Go.RowKit Go.Sort
open Nw N8 Go.ChangeShapes Go.WideShapes
set_option linter.unusedVariables false
set_option maxRecDepth 100000 in
set_option maxHeartbeats 8000000 in
theorem repl_kids (S : Nat → Prop) (g gl gb gm : Nat) (lv : Value) (L : List L8) (bad more : ByteArray) (N : Nat) (ih : RepOf S g gl gb gm lv L bad more N) (k : Int) (hk : k ≠ 1) (t : L8) (ks : List L8) (ds : List Nd) (hN : cntL ds ≤ N) (hf : ∀ d ∈ ds, Fine d) (hs : ∀ d ∈ ds, shortT d = true) (hbig : cntL ds ≤ 99999)
    (c : Nat) (rest : List L8) (hd9 : L.drop c = textsL ds ++ rest) (c0 c1 c2 c3 : Value) (w : World) (hS : Old S g w) (hd : NdC S w (.mk k t ks ds) c0 c1 c2 c3) (hC : CS g gl gb gm lv L bad more w c) :
    Calls Try.prog 46 #[.agg #[c0, c1, c2, c3], .func (.func 26) #[] #[.pointer (some ⟨g, 0, none⟩), .pointer (some ⟨gl, 0, none⟩), .pointer (some ⟨gb, 0, none⟩), .pointer (some ⟨gm, 0, none⟩)]] w (RepA S g gl gb gm lv L bad more (.mk k t ks ds) c w) := by
  have hglt := hC.lt
  have hR := RX.make hS hd
  have hdA := hd.all fun b hb => (hS b hb).1
  have htx : textsT (.mk k t ks ds) = textsL ds := by rw [textsT, if_neg hk]; rfl
  have hlen := cntL_len ds
  obtain ⟨rfl, rfl, -, A, cap, rfl, hcap, hcm, -, -⟩ := hdA.parts
  obtain ⟨k9, s9, a, m, c9, A9, m9, q9, -, -, rfl, h99⟩ := hdA.shape
  obtain ⟨T, hT⟩ : ∃ T, ba t = T := ⟨_, rfl⟩
  rw [hT] at hR hd ⊢
  obtain ⟨n, hn⟩ : ∃ n, ds.length = n := ⟨_, rfl⟩
  have HN := Lib.hid hn
  rw [hn] at hR hcap hd ⊢
  have hal : Below w.heap.size w ((w.alloc (.cells #[.int .i64 k, .string T, .slice a m c9, .slice A n cap] 25)).alloc (.cells #[.int .i64 0, .string ⟨#[]⟩, .slice none 0 0, .slice none 0 0] 25)) := ((Below.refl _ _).alloc (Nat.le_refl _) _).alloc (by simp) _
  have hcl := CloneN_any S (.slice A n cap) ds _ (fun b hb => ((hS.go hal.size) b hb).1) hR.2.2.2.2.kdS (by omega)
  have HR := Lib.hid hR
  have HC0 := Lib.hid hC
  have HC1 := Lib.hid (hC.below hal)
  have HTX := Lib.hid htx
  have HGL := Lib.hid hglt
  have HD9 := Lib.hid hd9
  have HFS := Lib.hid (And.intro hf hs)
  have HCN := Lib.hid (And.intro hN hbig)
  have HIH := Lib.hid ih
  have HK := Lib.hid hk
  have hn63 : n ≤ 100000 := by omega
  have p1 : (k == 1) = false := by simpa using hk
  obtain ⟨x0, x1, x2, x3⟩ := HR.out.2.2.1.cells
  clear hglt hR hdA htx hlen h99 hT hn hal hS hd hC hd9 hf hs hN hbig ih hk
  unfold maxLen at hcm
  go_enter Try.func46, Try.ntmps46
  go_wp2_with fail
  refine hcl.mono ?_
  rintro e w1 ⟨v, rfl, ⟨qs, hko⟩, hb1⟩
  have hr1 := HR.out.far (hb1.mono HR.out.size)
  have HLS : Hid (LS S g w w1 (.mk k t ks ds) (.int .i64 k) (.string T) (.slice a m c9) (.slice A n cap) v (half more.data.toList ds 0)) := Lib.hid ⟨hr1, qs, (hko.low HR.out.size).keep (fun b hb => ⟨.inl hb, rfl⟩) fun _ _ => rfl⟩
  have HCS := Lib.hid (HC1.out.below hb1)
  clear hr1 hko hb1 hcl x0 x1 x2 x3 HR HC1
  obtain ⟨x0, x1, x2, x3⟩ := HLS.out.1.2.2.1.cells
  go_wp2
  go_loopw [9, 10, 11, 12, 35] (fun s9 s10 s11 s12 si wr => ∃ (j : Nat), j ≤ n ∧ si = .int .i64 (j : Int) ∧ Hid (LS S g w wr (.mk k t ks ds) (.int .i64 k) (.string T) (.slice a m c9) (.slice A n cap) v (half more.data.toList ds j)) ∧ Hid (CS g gl gb gm lv L bad more wr (c + (textsL (ds.take j)).length)) ∧ Hid (bad.data.toList ∉ textsL (ds.take j))) (fun _ _ _ _ si _ => n - (intOf si).toNat)
  case atStart => exact ⟨0, Nat.zero_le _, rfl, HLS, HCS, Lib.hid (by rw [List.take_zero, textsL]; simp)⟩
  case round =>
    clear HLS HCS x0 x1 x2 x3
    obtain ⟨j, hj, rfl, HLS, HCS, HNB⟩ := hrel
    obtain ⟨x0, x1, x2, x3⟩ := HLS.out.1.2.2.1.cells
    by_cases hlt : j < n
    · have hjl : j < ds.length := by rw [HN.out]; exact hlt
      have hjz : (j : Int) < (n : Int) := by omega
      obtain ⟨b, o, e0, e1, e2, e3, rfl, hb, y0, y1, y2, y3, hnd⟩ := HLS.out.1.2.2.2.2.kdS.kid j hjl
      obtain ⟨k1, s1, a1, n1, q1, A1, m1, r1, rfl, rfl, rfl, rfl⟩ := NdC.cellsOk hnd
      have hal : Below wr.heap.size wr (wr.alloc (.cells #[.int .i64 k1, .string s1, .slice a1 n1 q1, .slice A1 m1 r1] 25)) := (Below.refl _ _).alloc (Nat.le_refl _) _
      have HL1 := Lib.hid (HLS.out.go HGL.out (gb_of hal))
      have HC1 := Lib.hid (HCS.out.below hal)
      have hOr : Old S g wr := HLS.out.1.1.go (by have := HLS.out.1.size; omega)
      have hck : cntT (ds[j]'hjl) ≤ cntL ds := cntL_mem (List.getElem_mem hjl)
      have hR := HIH.out (ds[j]'hjl) (Nat.le_trans hck HCN.out.1) (HFS.out.1 _ (List.getElem_mem hjl)) (HFS.out.2 _ (List.getElem_mem hjl)) (by have := HCN.out.2; omega) _ _ (textsL_drop HD9.out j hjl) _ _ _ _ _ (hOr.go hal.size) (NdC.keep (fun b hb => ⟨hb, hal.block b (hOr b hb).1⟩) _ hnd) HC1.out
      have HSZ := Lib.hid hal.size
      clear hnd hal hOr hck
      go_wp2_with fail
      refine hR.mono ?_
      rintro e w2 ⟨hgr, hres⟩
      have HL2 := Lib.hid (HL1.out.go HGL.out hgr)
      clear hR
      obtain ⟨hbad, ⟨r0, r1', r2, r3, rfl, hrn⟩, hcs⟩ | ⟨pre, post, hpp, hnb, rfl, hcs⟩ := hres
      · obtain ⟨k2, s2, a2, n2, q2, A2, m2, r2', rfl, rfl, rfl, rfl⟩ := NdC.cellsOk hrn
        have hal3 : Below w2.heap.size w2 (w2.alloc (.cells #[.int .i64 k2, .string s2, .slice a2 n2 q2, .slice A2 m2 r2'] 25)) := (Below.refl _ _).alloc (Nat.le_refl _) _
        have HL3 := Lib.hid (HL2.out.go HGL.out (gb_of hal3))
        have HC3 := Lib.hid (hcs.below hal3)
        have hjh := half_pos (e := more.data.toList) hjl
        have hhl : (half more.data.toList ds j).length = n := by rw [half_len _ _ _ (Nat.le_of_lt hjl), HN.out]
        obtain ⟨h, cv, hv, hBh, hhs, hcv, hcmv⟩ := HL3.out.2.choose_spec.form (Nat.lt_of_le_of_lt (Nat.zero_le _) hjh)
        rw [hhl] at hv
        subst hv
        obtain ⟨⟨f0, f1, f2, f3, g0, g1, g2, g3, -⟩, fz0, fz1, fz2, fz3⟩ := HL3.out.2.choose_spec.at_ hhl j hjh
        have hhw : h < wr.heap.size := (HLS.out.2.choose_spec.1.lt h rfl).2
        have HLP := Lib.hid (HL3.out.put hhl j hjh (mapT more.data.toList (ds[j]'hjl)) ⟨.int .i64 k2, .string s2, .slice a2 n2 q2, .slice A2 m2 r2'⟩ _ (Nat.lt_of_lt_of_le hhw HSZ.out) (Nat.le_trans HLS.out.1.size HSZ.out) (NdC.keep (fun b hb => by
          rcases hb with hb | ⟨b1, b2⟩
          · have hb2 := (HL2.out.1.1 b hb).1
            have := HL2.out.1.size
            exact ⟨.inl hb, hal3.block b (by omega)⟩
          · exact ⟨.inr ⟨b1, Nat.lt_of_lt_of_le b2 hal3.size⟩, hal3.block b b2⟩) _ hrn))
        rw [half_set _ _ _ hjl] at HLP
        have HCP := Lib.hid (HC0.out.far HC3.out (below_put4at (Below.refl w.heap.size _) (g := h) (o := j * 4) (by omega) (.int .i64 k2) (.string s2) (.slice a2 n2 q2) (.slice A2 m2 r2')))
        have HSN := Lib.hid (textsL_snoc hjl)
        have HBD := Lib.hid hbad
        rw [Nat.add_assoc, ← List.length_append, ← HSN.out] at HCP
        clear hbad hrn hcs hal3 hjh hhl hBh hhs hcmv hhw HL2 HL1 HC1 HLS HCS hgr HC3
        go_wp2_with fail
        go_roundw
        case measure => simp [intOf]; omega
        case rel =>
          refine ⟨j + 1, by omega, by go_num, HLP, HCP, Lib.hid ?_⟩
          rw [HSN.out, List.mem_append]
          rintro (h1 | h1)
          · exact HNB.out h1
          · exact HBD.out h1
      · skip
        have hal3 : Below w2.heap.size w2 (w2.alloc (.cells #[.int .i64 0, .string ⟨#[]⟩, .slice none 0 0, .slice none 0 0] 25)) := (Below.refl _ _).alloc (Nat.le_refl _) _
        have HL3 := Lib.hid (HL2.out.go HGL.out (gb_of hal3))
        have HC3 := Lib.hid (hcs.below hal3)
        obtain ⟨z0, z1, z2, z3⟩ := HL3.out.1.2.2.2.1.cells
        obtain ⟨fz0, fz1, fz2, fz3⟩ := HL3.out.1.2.2.2.1.frozen
        have HPP := Lib.hid hpp
        have HNP := Lib.hid hnb
        clear hpp hnb hcs hal3 HL2 HL1 HC1 HLS HCS hgr
        go_wp2
        try simp only [Exit.inBlock, Exit.then]
        have hbb : Below w.heap.size (w2.alloc (.cells #[.int .i64 0, .string ⟨#[]⟩, .slice none 0 0, .slice none 0 0] 25)) (put4 (w2.alloc (.cells #[.int .i64 0, .string ⟨#[]⟩, .slice none 0 0, .slice none 0 0] 25)) (w.heap.size + 1) (.int .i64 0) (.string ⟨#[]⟩) (.slice none 0 0) (.slice none 0 0)) := below_put4 (Below.refl _ _) (by omega) _ _ _ _
        refine bodyPost_ret (v := .tuple #[.agg #[.int .i64 0, .string ⟨#[]⟩, .slice none 0 0, .slice none 0 0], .int .i64 4]) (by simp [results, Try.results46, go_sem, z0, z1, z2, z3]) rfl ⟨gb_below HL3.out.1.2.1 hbb, .inr ⟨textsL (ds.take j) ++ pre, post ++ textsL (ds.drop (j + 1)), ?_, ?_, rfl, ?_⟩⟩
        · rw [HTX.out, textsL_split hjl, HPP.out]; simp
        · rw [List.mem_append]
          rintro (h1 | h1)
          · exact HNB.out h1
          · exact HNP.out h1
        · have := HC0.out.far HC3.out hbb
          rw [List.length_append, ← Nat.add_assoc]
          exact this
    · obtain rfl : j = n := by omega
      have HH : Hid (half more.data.toList ds j = mapL more.data.toList ds) := Lib.hid (by rw [← HN.out, half_all])
      have HT2 : Hid (ds.take j = ds) := Lib.hid (List.take_of_length_le (by rw [HN.out]; exact Nat.le_refl _))
      rw [HH.out] at HLS
      rw [HT2.out] at HNB HCS
      have HD := Lib.hid (HLS.out.done HK.out)
      obtain ⟨z0, z1, z2, z3⟩ := HLS.out.1.2.2.2.1.cells
      obtain ⟨fz0, fz1, fz2, fz3⟩ := HLS.out.1.2.2.2.1.frozen
      have HCF := Lib.hid (HC0.out.far HCS.out (HD.out.2.2.mono (by omega)))
      clear HH HT2 HCS
      obtain ⟨av, nv, cv, rfl⟩ : ∃ av nv cv, v = .slice av nv cv := by
        obtain ⟨A', cap', h1, -⟩ := HLS.out.2.choose_spec.kdS (T := fun _ => True) (fun _ _ => trivial) (fun _ _ => trivial)
        exact ⟨_, _, _, h1⟩
      go_wp2
      refine bodyPost_ret (v := .tuple #[.agg #[.int .i64 k, .string ⟨#[]⟩, .slice a m c9, .slice av nv cv], .int .i64 0]) (by simp [results, Try.results46, go_sem, z0, z1, z2, z3]) rfl ⟨HD.out.1, .inl ⟨by rw [HTX.out]; exact HNB.out, ⟨_, _, _, _, rfl, HD.out.2.1⟩, by rw [HTX.out]; exact HCF.out⟩⟩
end Go.Proofs.Ytgingebdoppdbaa
namespace Go.Proofs.Ytgingebdoppdbaa
open Go.RowKit Go.Sort
open Nw N8 Go.ChangeShapes Go.WideShapes
set_option linter.unusedVariables false
theorem shortT_kids {k : Int} {t : L8} {ks : List L8} {ds : List Nd} (h : shortT (.mk k t ks ds) = true) : t.length ≤ 200 ∧ ∀ d ∈ ds, shortT d = true := by
  rw [shortT, Bool.and_eq_true, Bool.and_eq_true] at h
  refine ⟨of_decide_eq_true h.1.1, fun d hd => ?_⟩
  obtain ⟨j, hj, rfl⟩ := List.mem_iff_getElem.1 hd
  cases hb : shortT (ds[j]'hj) with
  | true => rfl
  | false => have := shortL_no hj hb; rw [h.2] at this; cases this
theorem repl_any (S : Nat → Prop) (g gl gb gm : Nat) (lv : Value) (L : List L8) (bad more : ByteArray) (hL : L.length ≤ 100000) (hm : more.size ≤ 200) (N : Nat) : RepOf S g gl gb gm lv L bad more N := by
  induction N with
  | zero => intro d h; have := cntT_pos d; omega
  | succ N ih =>
    intro d hN hf hs hbig c rest hd9 c0 c1 c2 c3 w hS hd hC
    cases d with
    | mk k t ks ds =>
      obtain ⟨h1, h2⟩ := shortT_kids hs
      by_cases hk : k = 1
      · subst hk
        exact repl_text S g gl gb gm lv L bad more hL hm t ks ds hf h1 c rest hd9 c0 c1 c2 c3 w hS hd hC
      · rw [cntT] at hN hbig
        refine repl_kids S g gl gb gm lv L bad more N ih k hk t ks ds (by omega) ?_ h2 (by omega) c rest ?_ c0 c1 c2 c3 w hS hd hC
        · cases hf with
          | mk _ _ _ _ hdd => exact hdd
        · rw [hd9, textsT, if_neg hk]; rfl
set_option maxRecDepth 100000 in
set_option maxHeartbeats 8000000 in
theorem Each_any (S : Nat → Prop) (g gl gb gm : Nat) (lv : Value) (L : List L8) (bad more : ByteArray) (hL : L.length ≤ 100000) (hm : more.size ≤ 200) (d : Nd) (hf : Fine d) (hs : shortT d = true) (hc : cntT d ≤ 65536)
    (c : Nat) (rest : List L8) (hd9 : L.drop c = textsT d ++ rest) (c0 c1 c2 c3 : Value) (w : World) (hS : Old S g w) (hd : NdC S w d c0 c1 c2 c3) (hC : CS g gl gb gm lv L bad more w c) :
    Calls Try.prog 25 #[.agg #[c0, c1, c2, c3], .func (.func 26) #[] #[.pointer (some ⟨g, 0, none⟩), .pointer (some ⟨gl, 0, none⟩), .pointer (some ⟨gb, 0, none⟩), .pointer (some ⟨gm, 0, none⟩)]] w (RepA S g gl gb gm lv L bad more d c w) := by
  have hR := RX.make hS hd
  have hglt := hC.lt
  obtain ⟨k, s, a, n, q, A, m, r, rfl, rfl, rfl, rfl⟩ := NdC.cellsOk hd
  have hal : Below w.heap.size w ((w.alloc (.cells #[.int .i64 k, .string s, .slice a n q, .slice A m r] 25)).alloc (.cells #[.int .i64 0, .string ⟨#[]⟩, .slice none 0 0, .slice none 0 0] 25)) := ((Below.refl _ _).alloc (Nat.le_refl _) _).alloc (by simp) _
  have hw := isWalkable_any d hf hc _ _ _ _ _ (hR.2.2.2.2.all fun b hb => (hS.go hal.size b hb).1)
  have HR := Lib.hid hR
  have HC0 := Lib.hid hC
  have HC1 := Lib.hid (hC.below hal)
  have HGL := Lib.hid hglt
  have HREP := Lib.hid (fun W (hW : RX S g w W d (.int .i64 k) (.string s) (.slice a n q) (.slice A m r)) (hCW : CS g gl gb gm lv L bad more W c) => repl_any S g gl gb gm lv L bad more hL hm (cntT d) d (Nat.le_refl _) hf hs (by omega) c rest hd9 _ _ _ _ W (hW.1.go (by have := hW.size; omega)) hW.2.2.2.2 hCW)
  obtain ⟨x0, x1, x2, x3⟩ := HR.out.2.2.1.cells
  clear hR hglt hS hd hC hf hs hc hd9 hL hm hal
  have hnil : ∀ W, (binOp .eql 44 (.func (.func 26) #[] #[.pointer (some ⟨g, 0, none⟩), .pointer (some ⟨gl, 0, none⟩), .pointer (some ⟨gb, 0, none⟩), .pointer (some ⟨gm, 0, none⟩)]) .nilFunc).run Try.prog W = .ok (.bool false) W := fun W => by kernel_rfl
  go_enter Try.func25, Try.ntmps25
  go_wp2_with fail
  refine hw.mono ?_
  rintro e w2 ⟨rfl, hb2⟩
  have HR2 := Lib.hid (HR.out.far (hb2.mono HR.out.size))
  have HC2 := Lib.hid (HC1.out.below hb2)
  have hrep := HREP.out w2 HR2.out HC2.out
  clear hw hb2 HREP x0 x1 x2 x3 HR HC1 HC2
  obtain ⟨x0, x1, x2, x3⟩ := HR2.out.2.2.1.cells
  go_wp2_with fail
  refine hrep.mono ?_
  rintro e w3 ⟨hgr, hres⟩
  have HR3 := Lib.hid (HR2.out.go HGL.out hgr)
  have HSZ := Lib.hid HR2.out.size
  obtain ⟨z0, z1, z2, z3⟩ := HR3.out.2.2.2.1.cells
  obtain ⟨f0, f1, f2, f3⟩ := HR3.out.2.2.2.1.frozen
  clear hgr
  obtain ⟨hbad, ⟨r0, r1, r2, r3, rfl, hrn⟩, hcs⟩ | ⟨pre, post, hpp, hnb, rfl, hcs⟩ := hres
  · obtain ⟨k2, s2, a2, n2, q2, A2, m2, r2', rfl, rfl, rfl, rfl⟩ := NdC.cellsOk hrn
    have HX := Lib.hid (And.intro hbad (And.intro hrn hcs))
    clear hbad hrn hcs
    go_wp2
    have hbb : Below (w.heap.size + 1) w3 (put4 w3 (w.heap.size + 1) (.int .i64 k2) (.string s2) (.slice a2 n2 q2) (.slice A2 m2 r2')) := below_put4 (Below.refl _ _) (Nat.le_refl _) _ _ _ _
    refine bodyPost_ret (v := .tuple #[.agg #[.int .i64 k2, .string s2, .slice a2 n2 q2, .slice A2 m2 r2'], .int .i64 0]) (by simp [results, Try.results25, go_sem, z0, z1, z2, z3]) rfl ⟨gb_below HR3.out.2.1 (hbb.mono (by omega)), .inl ⟨HX.out.1, ⟨_, _, _, _, rfl, NdC.keep (fun b hb => ?_) _ HX.out.2.1⟩, HC0.out.far HX.out.2.2 (hbb.mono (by omega))⟩⟩
    have hsz : (put4 w3 (w.heap.size + 1) (.int .i64 k2) (.string s2) (.slice a2 n2 q2) (.slice A2 m2 r2')).heap.size = w3.heap.size := by unfold put4; simp
    rcases hb with hb | ⟨b1, b2⟩
    · exact ⟨.inl hb, hbb.block b (by have := (HR3.out.1 b hb).1; omega)⟩
    · have hs2 := HSZ.out
      refine ⟨.inr ⟨by omega, Nat.lt_of_lt_of_le b2 hbb.size⟩, ?_⟩
      show (put4 w3 (w.heap.size + 1) (.int .i64 k2) (.string s2) (.slice a2 n2 q2) (.slice A2 m2 r2')).heap[b]? = _
      unfold put4
      rw [Below.heap_setCell _ _ _ _ (by show b ≠ w.heap.size + 1; omega), Below.heap_setCell _ _ _ _ (by show b ≠ w.heap.size + 1; omega), Below.heap_setCell _ _ _ _ (by show b ≠ w.heap.size + 1; omega), Below.heap_setCell _ _ _ _ (by show b ≠ w.heap.size + 1; omega)]
  · have HX := Lib.hid (And.intro hpp (And.intro hnb hcs))
    clear hpp hnb hcs
    go_wp2
    have hbb : Below (w.heap.size + 1) w3 (put4 w3 (w.heap.size + 1) (.int .i64 0) (.string ⟨#[]⟩) (.slice none 0 0) (.slice none 0 0)) := below_put4 (Below.refl _ _) (Nat.le_refl _) _ _ _ _
    refine bodyPost_ret (v := .tuple #[.agg #[.int .i64 0, .string ⟨#[]⟩, .slice none 0 0, .slice none 0 0], .int .i64 4]) (by simp [results, Try.results25, go_sem, z0, z1, z2, z3]) rfl ⟨gb_below HR3.out.2.1 (hbb.mono (by omega)), .inr ⟨pre, post, HX.out.1, HX.out.2.1, rfl, HC0.out.far HX.out.2.2 (hbb.mono (by omega))⟩⟩
end Go.Proofs.Ytgingebdoppdbaa
