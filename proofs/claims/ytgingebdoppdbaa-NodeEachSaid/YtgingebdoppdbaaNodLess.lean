/- The contracts of the program's Less and With, whole. -/
import Derived.Test.YtgingebdoppdbaaNodDel
namespace Go.Proofs.Ytgingebdoppdbaa
open Go.RowKit Go.Sort
open Nw N8
set_option linter.unusedVariables false
theorem BxS.far {w W W' : World} {d : Nd} {c0 c1 c2 c3 : Value} (h : BxS (· < w.heap.size) w W d c0 c1 c2 c3) (hb : Below (w.heap.size + 2) W W') : BxS (· < w.heap.size) w W' d c0 c1 c2 c3 :=
  ⟨h.1.trans (hb.mono (by omega)), h.2.1.below hb (by omega), h.2.2.1.below hb (by omega), NdC.keep (fun b hs => ⟨hs, hb.block b (by have : b < w.heap.size := hs; omega)⟩) d h.2.2.2⟩
theorem BxS.size {S : Nat → Prop} {w W : World} {d : Nd} {c0 c1 c2 c3 : Value} (h : BxS S w W d c0 c1 c2 c3) : w.heap.size + 2 ≤ W.heap.size := h.2.2.1.lt
theorem BxS.small {w W : World} {d : Nd} {c0 c1 c2 c3 : Value} (h : BxS (· < w.heap.size) w W d c0 c1 c2 c3) : ∀ b, b < w.heap.size → b < W.heap.size := fun b hb => by have := h.size; omega
/-- What Less holds: the box, and the two rows. -/
def LessSt (w W : World) (d : Nd) (c0 c1 c2 c3 : Value) (s7 s8 : Value) (ks : List L8) (ds : List Nd) : Prop :=
  BxS (· < w.heap.size) w W d c0 c1 c2 c3 ∧ W.ownsRow (w.heap.size + 2) 9 1 s7 ks.length (ks.map encStr) ∧ ∃ qs, KO (· < w.heap.size) (w.heap.size + 2) W s8 qs ds
theorem LessSt.done {w W : World} {d : Nd} {c0 c1 c2 c3 : Value} {s7 s8 : Value} {ks : List L8} {ds : List Nd} (h : LessSt w W d c0 c1 c2 c3 s7 s8 ks ds) :
    NdW (put4 W (w.heap.size + 1) (.int .i64 3) (.string ⟨#[]⟩) s7 s8) (.mk 3 [] ks ds) (.int .i64 3) (.string ⟨#[]⟩) s7 s8 ∧ Below w.heap.size w (put4 W (w.heap.size + 1) (.int .i64 3) (.string ⟨#[]⟩) s7 s8) := by
  obtain ⟨h1, h2, qs, h3⟩ := h
  have hB := below_put4 h1.1 (g := w.heap.size + 1) (by omega) (.int .i64 3) (.string ⟨#[]⟩) s7 s8
  exact ⟨ndw_map (rd_of_owns (owns_put h2 (by omega) _ _ _ _)) ((h3.put (by omega) (fun b hb => by have : b < w.heap.size := hb; omega) _ _ _ _).kd fun b hb => Nat.lt_of_lt_of_le hb hB.size), hB⟩
theorem grown_below {w w' : World} {v : Value} {B base n size : Nat} {e : TypeId} {xs : List Value} (hg : w.grownBy w' v.ownBlock) (ho : w.ownsRow base e size v n xs) (hB : B ≤ base) (hs : B ≤ w.heap.size) : Below B w w' :=
  (Below.refl B w).grown hg hs fun k hk => Nat.le_trans hB (ho.lt k hk).1
theorem LessSt.cutS {w W W' : World} {d : Nd} {c0 c1 c2 c3 : Value} {s7 s7' s8 : Value} {ks ks' : List L8} {ds : List Nd} (h : LessSt w W d c0 c1 c2 c3 s7 s8 ks ds) (ho : W'.ownsRow (w.heap.size + 2) 9 1 s7' ks'.length (ks'.map encStr)) (hg : W.grownBy W' s7.ownBlock) : LessSt w W' d c0 c1 c2 c3 s7' s8 ks' ds := by
  obtain ⟨h1, h2, qs, h3⟩ := h
  have hb := grown_below hg h2 (Nat.le_refl _) h1.size
  exact ⟨h1.far hb, ho, qs, h3.keep (fun b hs => ⟨hs, hb.block b (by have : b < w.heap.size := hs; omega)⟩) fun g hgv => hg.block g (h3.1.lt g hgv).2 fun e => owns_apart h3.1 h2 (by decide) hgv e.symm⟩
theorem LessSt.cutN {w W W' : World} {d : Nd} {c0 c1 c2 c3 : Value} {s7 s8 s8' : Value} {ks : List L8} {ds ds' : List Nd} (h : LessSt w W d c0 c1 c2 c3 s7 s8 ks ds) (ho : ∃ qs, KO (· < w.heap.size) (w.heap.size + 2) W' s8' qs ds') (hg : W.grownBy W' s8.ownBlock) : LessSt w W' d c0 c1 c2 c3 s7 s8' ks ds' := by
  obtain ⟨h1, h2, qs, h3⟩ := h
  have hb := grown_below hg h3.1 (Nat.le_refl _) h1.size
  exact ⟨h1.far hb, owns_keep h2 fun g hgv => hg.block g (h2.lt g hgv).2 fun e => owns_apart h2 h3.1 (by decide) hgv e.symm, ho⟩
set_option maxRecDepth 100000 in
set_option maxHeartbeats 8000000 in
theorem Less_any (d : Nd) (x : ByteArray) (hf : Fine d) (hcnt : d.kids.length ≤ 10000) (c0 c1 c2 c3 : Value) (w : World) (hd : NdW w d c0 c1 c2 c3) :
    Calls Try.prog 20 #[.agg #[c0, c1, c2, c3], .string x] w (GivesN (lessT d x.data.toList) w) := by
  have HB := Lib.hid (BxS.make (S := (· < w.heap.size)) hd fun b hb => hb)
  obtain ⟨k, s, a, n, c, A, m, q, rfl, rfl, rfl, rfl⟩ := hd.shape
  have HFI := Lib.hid (find_any d x (fine_keys hf) _ _ _ _ _ (HB.out.all fun b hb => hb))
  have HF := Lib.hid hf
  clear hd hf
  generalize hW0 : (w.alloc (.cells #[.int .i64 k, .string s, .slice a n c, .slice A m q] 25)).alloc (.cells #[.int .i64 0, .string ⟨#[]⟩, .slice none 0 0, .slice none 0 0] 25) = W0 at *
  obtain ⟨x0, x1, x2, x3⟩ := HB.out.2.1.cells
  go_enter Try.func20, Try.ntmps20
  go_wp2_with fail
  refine HFI.out.mono ?_
  rintro e w1 ⟨r, rfl, hfk, hb1⟩
  have HB1 := Lib.hid (HB.out.go (fun b hb => hb) hb1)
  clear hb1 x0 x1 x2 x3 HFI hW0 HB
  obtain ⟨x0, x1, x2, x3⟩ := HB1.out.2.1.cells
  obtain ⟨z0, z1, z2, z3⟩ := HB1.out.2.2.1.cells
  obtain ⟨f0, f1, f2, f3⟩ := HB1.out.2.2.1.frozen
  cases hfk with
  | no hg hno =>
    have HW : Hid (lessT d x.data.toList = d) := Lib.hid (less_no HF.out fun hk h => by obtain ⟨i, hi, e⟩ := List.mem_iff_getElem.1 h; exact hno hk i hi e)
    have HX8 := Lib.hid (below_put4 HB1.out.1 (g := w.heap.size + 1) (by omega) (.int .i64 k) (.string s) (.slice a n c) (.slice A m q))
    have HND := Lib.hid ((HB1.out.2.2.2.put (g := w.heap.size + 1) (fun b hs => by have : b < w.heap.size := hs; omega) (.int .i64 k) (.string s) (.slice a n c) (.slice A m q)).all fun b hb => Nat.lt_of_lt_of_le hb HX8.out.size)
    clear hg hno hcnt
    go_wp2
    refine bodyPost_ret (v := .agg #[.int .i64 k, .string s, .slice a n c, .slice A m q]) (by simp [results, Try.results20, go_sem, z0, z1, z2, z3]) rfl ⟨_, _, _, _, rfl, by rw [HW.out]; exact HND.out, HX8.out⟩
  | yes j hk hj hdj he hn hg =>
    have HW : Hid (lessT d x.data.toList = .mk 3 [] (d.keys.eraseIdx j) (d.kids.eraseIdx j)) := Lib.hid (less_at HF.out hk hj he)
    have HJ := Lib.hid (And.intro hj hdj)
    have hjj : j < 100000 := by omega
    have hl : d.keys.length ≤ 10000 := by
      have := fine_keys HF.out hk
      omega
    clear hg he hn
    cases d with
    | mk k2 t2 ks ds =>
      have HCS := Lib.hid (fun W hW => CloneS_any (.slice a n c) ks W hW (by have : ks.length ≤ 10000 := hl; omega))
      have HCN := Lib.hid (fun W hS hW => CloneN_any (· < w.heap.size) (.slice A m q) ds W hS hW (by have : ds.length ≤ 10000 := hcnt; omega))
      have gj : ¬ (j : Int) < 0 := by omega
      have wj : IntKind.i64.wrap ((j : Int) + 1) = (j : Int) + 1 := IntWalk.i64_in _ (by omega)
      clear hcnt hl hk hj hdj
      have hS0 := HB1.out.go (fun b hb => hb) (below_drew w1)
      have HB0 := Lib.hid hS0
      go_upto_region 4 with fail
      go_cut [6, 7] from 14 to 19 (fun s7 s8 W => LessSt w W (.mk k2 t2 ks ds) (.int .i64 k) (.string s) (.slice a n c) (.slice A m q) s7 s8 ks ds)
      case first =>
        have g2 : w1.drew.cell? ⟨w.heap.size, 2, none⟩ = some (.slice a n c) := x2
        have g3 : w1.drew.cell? ⟨w.heap.size, 3, none⟩ = some (.slice A m q) := x3
        go_region_held3 (fun W => W.cell? ⟨w.heap.size, 2, none⟩ = some (.slice a n c) ∧ W.cell? ⟨w.heap.size, 3, none⟩ = some (.slice A m q)) (first | exact ⟨g2, g3⟩ | assumption)
          (first
            | (go_at_call 40; refine (HCS.out _ (NdC.rd (by first | exact HB0.out.2.2.2 | exact HBN.out.2.2.2) (by first | exact HB0.out.small | exact HBN.out.small))).mono ?_; rintro e w2 ⟨s7, rfl, hoS, hbS⟩; have HBS := Lib.hid (BxS.go (by first | exact HB0.out | exact HBN.out) (fun b hb => hb) hbS); have hcS := HBS.out.2.1.cells.2.2)
            | (go_at_call 41; refine (HCN.out _ (by first | exact HB0.out.small | exact HBS.out.small) (NdC.kdS (by first | exact HB0.out.2.2.2 | exact HBS.out.2.2.2))).mono ?_; rintro e w3 ⟨s8, rfl, ⟨qs, hoN⟩, hbN⟩; have HBN := Lib.hid (BxS.go (by first | exact HB0.out | exact HBS.out) (fun b hb => hb) hbN); have hcN := HBN.out.2.1.cells.2.2))
        all_goals
          go_wp2_with fail
          go_meet
          first
            | exact ⟨HBN.out, owns_low (owns_below hoS hbN) HB0.out.size, qs, hoN.low HBS.out.size⟩
            | exact ⟨HBS.out, owns_low hoS HBN.out.size, qs, (hoN.below HB0.out.small hbS).low HB0.out.size⟩
      case rest =>
        have HST := Lib.hid hcut
        clear hcut HCS HCN HB0 hS0 x0 x1 x2 x3 z0 z1 z2 z3 f0 f1 f2 f3 HB1
        go_wp2_with fail
        refine (DeleteS_any (w.heap.size + 2) _ u6 ks HST.out.2.1 j HJ.out.1).mono ?_
        rintro e w2 ⟨s7, rfl, hoS, hgS⟩
        have HST2 := Lib.hid (HST.out.cutS hoS hgS)
        clear hoS hgS HST
        go_wp2_with fail
        obtain ⟨hB3, hS3, qs3, hN3⟩ := HST2.out
        refine (DeleteN_any (· < w.heap.size) (w.heap.size + 2) _ u7 qs3 ds hN3 (fun b hb => by have : b < w.heap.size := hb; omega) j HJ.out.2).mono ?_
        rintro e w3 ⟨s8, rfl, hoN, hgN⟩
        have HST3 := Lib.hid (HST2.out.cutN hoN hgN)
        clear hB3 hS3 hN3 hoN hgN HST2
        obtain ⟨hB4, hS9, qs9, hN9⟩ := HST3.out
        obtain ⟨ha, hcp, rfl, -, -⟩ := rd_slice (rd_of_owns hS9)
        obtain ⟨hA, hcq, rfl, -, -⟩ := (hN9.kd hB4.small).shape
        clear hB4 hS9 hN9
        have HD := Lib.hid HST3.out.done
        obtain ⟨z0, z1, z2, z3⟩ := HST3.out.1.2.2.1.cells
        obtain ⟨fz0, fz1, fz2, fz3⟩ := HST3.out.1.2.2.1.frozen
        generalize (ks.eraseIdx j).length = M at *
        generalize (ds.eraseIdx j).length = N at *
        go_wp2
        refine bodyPost_ret (v := .agg #[.int .i64 3, .string ⟨#[]⟩, .slice ha M hcp, .slice hA N hcq]) (by simp [results, Try.results20, go_sem, z0, z1, z2, z3]) rfl ⟨_, _, _, _, rfl, by rw [HW.out]; exact HD.out.1, HD.out.2⟩
theorem With_any (d dv : Nd) (x : ByteArray) (hf : Fine d) (hcnt : d.kids.length ≤ 10000) (c0 c1 c2 c3 u0 u1 u2 u3 : Value) (w : World) (hd : NdW w d c0 c1 c2 c3) (hv : NdW w dv u0 u1 u2 u3) :
    Calls Try.prog 18 #[.agg #[c0, c1, c2, c3], .string x, .agg #[u0, u1, u2, u3]] w (GivesN (withT d x.data.toList dv) w) := by
  by_cases h0 : d.kind = 0 ∨ d.kind = 3
  · have ht : d.text = [] := fine_text hf (by omega)
    have hkl : d.keys.length ≤ 10000 := by
      rcases h0 with h0 | h0
      · rw [(fine_null hf h0).1]; exact Nat.zero_le _
      · have := fine_keys hf h0; omega
    cases d with
    | mk k t ks ds =>
      have ht' : t = [] := ht
      subst ht'
      exact With_map k ks ds dv x hf h0 hcnt hkl c0 c1 c2 c3 u0 u1 u2 u3 w hd hv
  · rw [with_else (fun h => h0 (.inl h)) (fun h => h0 (.inr h))]
    exact With_else d dv x (fun h => h0 (.inl h)) (fun h => h0 (.inr h)) c0 c1 c2 c3 u0 u1 u2 u3 w hd hv
end Go.Proofs.Ytgingebdoppdbaa
