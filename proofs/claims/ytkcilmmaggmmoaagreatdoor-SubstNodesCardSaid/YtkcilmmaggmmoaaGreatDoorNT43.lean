/- RefTexts -/
import Derived.Test.YtkcilmmaggmmoaaGreatDoorNT11
import Derived.Test.YtkcilmmaggmmoaaGreatDoorNT4
set_option linter.unusedVariables false
set_option linter.unusedSimpArgs false
set_option maxRecDepth 100000
set_option maxHeartbeats 16000000
open Go.Lib (hid)
namespace Go.Proofs.YtkcilmmaggmmoaaGreatDoor
namespace N8
end N8
namespace Nw
end Nw
end Go.Proofs.YtkcilmmaggmmoaaGreatDoor
namespace Go.Proofs.YtkcilmmaggmmoaaGreatDoor
open Go.RowKit Go.Sort
open Nw N8 Go.ChangeShapes Go.WideShapes
theorem below_al (w : World) (o : Obj) : Below w.heap.size w (w.alloc o) := (Below.refl _ _).alloc (Nat.le_refl _) _
namespace N8
theorem textsL_snoc : ∀ {ds : List Nd} {j : Nat} (h : j < ds.length), textsL (ds.take (j + 1)) = textsL (ds.take j) ++ textsT (ds[j]'h)
 | d :: ds, 0, _ => by
  show textsT d ++ [] = [] ++ textsT d
  rw [List.append_nil, List.nil_append]
 | d :: ds, j + 1, h => by
  rw [List.take_succ_cons, List.take_succ_cons, textsL, textsL, textsL_snoc (Nat.lt_of_succ_lt_succ h), List.append_assoc]; rfl
mutual
theorem textsT_len : ∀ (d : Nd), (textsT d).length ≤ cntT d
 | .mk k t ks ds => by
  rw [textsT, cntT, List.length_append]
  have := textsL_len ds
  split
  ·show 1 + _ ≤ _; omega
  ·show 0 + _ ≤ _; omega
theorem textsL_len : ∀ (ds : List Nd), (textsL ds).length ≤ cntL ds
 | [] => Nat.le_refl _
 | d :: ds => by
  rw [textsL, cntL, List.length_append]
  have := textsT_len d
  have := textsL_len ds
  omega
end
end N8
def TB (w W : World) (d : Nd) (c0 c1 c2 c3 : Value) : Prop := Below w.heap.size w W ∧ Row4 W w.heap.size 25 c0 c1 c2 c3 ∧ NdC (· < w.heap.size) W d c0 c1 c2 c3
section
variable {w W W' : World} {d : Nd} {c0 c1 c2 c3 : Value}
theorem TB.far (h : TB w W d c0 c1 c2 c3) (hb : Below (w.heap.size + 1) W W') : TB w W' d c0 c1 c2 c3 :=
 ⟨h.1.trans (hb.mono (by omega)), h.2.1.below hb (by omega), NdC.keep (fun b hs => ⟨hs, hb.block b (by have : b < w.heap.size := hs; omega)⟩) d h.2.2⟩
theorem TB.size (h : TB w W d c0 c1 c2 c3) : w.heap.size + 1 ≤ W.heap.size := h.2.1.lt
theorem TB.go (h : TB w W d c0 c1 c2 c3) (hb : Below W.heap.size W W') : TB w W' d c0 c1 c2 c3 := h.far (hb.mono h.size)
theorem TB.make (h : NdW w d c0 c1 c2 c3) : TB w (w.alloc (.cells #[c0, c1, c2, c3] 25)) d c0 c1 c2 c3 := by
 have hb := Boxed.make h
 exact ⟨hb.1, hb.2.1, NdC.keep (fun b hlt => ⟨hlt, hb.1.block b hlt⟩) d h⟩
theorem TB.nd (h : TB w W d c0 c1 c2 c3) : NdW W d c0 c1 c2 c3 := h.2.2.all fun b hb => Nat.lt_of_lt_of_le hb h.1.size
end
theorem RTexts_any (N : Nat) : ∀ (d : Nd), cntT d ≤ N → cntT d ≤ 100000 → ∀ (c0 c1 c2 c3 : Value) (w : World), NdW w d c0 c1 c2 c3 →
  Calls Tryz.prog 25 #[.agg #[c0, c1, c2, c3]] w fun e w' => ∃ v', e = .returned v' ∧ w'.ownsRow w.heap.size 9 1 v' (textsT d).length ((textsT d).map encStr) ∧ Below w.heap.size w w' := by
 induction N with
 | zero => intro d h; have := cntT_pos d; omega
 | succ N ih =>
  intro d hN hbig c0 c1 c2 c3 w hd
  cases d with
  | mk k t ks ds =>
   have HB0 := hid (TB.make hd)
   obtain ⟨rfl, rfl, _, A, cap, rfl, hcap, hm, -, -⟩ := hd.parts
   have HIH := hid ih
   rw [cntT] at hN hbig
   have HCN := hid (And.intro (show cntL ds ≤ N by omega) (show cntL ds ≤ 99999 by omega))
   obtain ⟨n, hn⟩ : ∃ n, ds.length = n := ⟨_, rfl⟩
   have HN := hid hn
   have hnl : n ≤ 100000 := by have := cntL_len ds; omega
   rw [hn] at HB0 hcap ⊢
   obtain ⟨i0, hi, hz0, hz1, hz2⟩ := infoS
   obtain ⟨T, hT⟩ : ∃ T, ba t = T := ⟨_, rfl⟩
   have HT : Hid (T.data.toList = t) := hid (by rw [← hT, ba_data])
   rw [hT] at HB0 ⊢
   clear ih hd hn hN hbig hT
   obtain ⟨W0, hW0⟩ : ∃ W0, w.alloc (.cells #[.int .i64 k, .string T, c2, .slice A n cap] 25) = W0 := ⟨_, rfl⟩
   have HB1 : Hid (TB w (W0.alloc (.cells #[] 9)) (.mk k t ks ds) (.int .i64 k) (.string T) c2 (.slice A n cap)) := hid (by rw [← hW0]; exact HB0.out.go (below_al _ _))
   have hown0 : (W0.alloc (.cells #[] 9)).ownsRow (w.heap.size + 1) 9 1 (.slice (some ⟨W0.heap.size, 0, none⟩) 0 0) 0 [] := World.ownsRow_made W0 #[] 0 (by rw [← hW0]; simp) (Nat.zero_le _) rfl
   have HO0 := hid hown0
   have hs0 : W0.heap.size = w.heap.size + 1 := by rw [← hW0]; simp
   have HS0 := hid hs0
   obtain ⟨x0, x1, x2, x3⟩ := HB0.out.2.1.cells
   rw [hW0] at x0 x1 x2 x3
   obtain ⟨y0, y1, y2, y3⟩ := HB1.out.2.1.cells
   clear hown0 hs0 HB0
   go_enter Tryz.func25, Tryz.ntmps25
   go_upto_if 10 with fail
   go_cut [3] from 11 to 15 (fun s3 W => ∃ b0 : List L8, b0.length ≤ 1 ∧ textsT (.mk k t ks ds) = b0 ++ textsL ds ∧ W.ownsRow (w.heap.size + 1) 9 1 s3 b0.length (b0.map encStr) ∧ TB w W (.mk k t ks ds) (.int .i64 k) (.string T) c2 (.slice A n cap))
   case first =>
    by_cases hk : k = 1
    ·subst hk
     have HTX : Hid (textsT (.mk 1 t ks ds) = [t] ++ textsL ds) := hid (by rw [textsT, if_pos rfl])
     go_wp2_with (at_builtin; refine wpList_append_own _ rfl _ _ 22 rfl (w.heap.size + 1) 9 i0 _ 1 16 Tryz.underlying22 hi hz0 hz1 hz2 rfl (by decide) _ 0 [] rfl (HO0.out.alloc _) _ 1 1 [.string T] rfl rfl (news_blk #[.string T] (by first | exact alloc_at _ _ | exact alloc_at1 _ _ _)) (one_str T) (by unfold maxLen; omega) (by omega) (by have := HS0.out; simp; omega) ?_; intro v' w3 hownS hgS hnilS)
     go_meet
     refine ⟨[t], Nat.le_refl _, HTX.out, ?_, ?_⟩
     ·have e : [t].map encStr = [.string T] := by show [encStr t] = _; rw [encStr_ba, ← HT.out, ba_of]
      rw [e]; exact hownS
     ·have hgS' : World.grownBy _ w3 (some W0.heap.size) := hgS
      have hb2 : Below (w.heap.size + 1) (W0.alloc (.cells #[] 9)) w3 := ((Below.refl _ _).alloc (by have := HS0.out; simp; omega) _).grown hgS' (by have := HS0.out; simp; omega) (fun g hg => by
       injection hg with hg
       have := HS0.out
       omega)
      exact HB1.out.far hb2
    ·have p1 : (k == 1) = false := by simpa using hk
     have HTX : Hid (textsT (.mk k t ks ds) = [] ++ textsL ds) := hid (by rw [textsT, if_neg hk])
     clear hk
     go_wp2
     go_meet
     exact ⟨[], Nat.zero_le _, HTX.out, HO0.out, HB1.out⟩
   case rest =>
   obtain ⟨b0, hb0l, hb0e, hb0o, hb0t⟩ := hcut
   have HBE := hid hb0e
   have HB := hid hb0t
   have HO := hid hb0o
   clear hb0e hb0t hb0o hW0 x0 x1 x2 x3 y0 y1 y2 y3 HB1 HO0 HS0
   go_wp2
   go_loopw [3, 4, 5, 6] (fun sv si s5 s6 wr => ∃ (j : Nat) (l : List L8), j ≤ n ∧ l.length ≤ 100000 ∧ si = .int .i64 (j : Int) ∧ Hid (l = b0 ++ textsL (ds.take j)) ∧ Hid (wr.ownsRow (w.heap.size + 1) 9 1 sv l.length (l.map encStr)) ∧ Hid (TB w wr (.mk k t ks ds) (.int .i64 k) (.string T) c2 (.slice A n cap))) (fun _ si _ _ _ => n - (intOf si).toNat)
   case atStart => exact ⟨0, b0, Nat.zero_le _, by omega, rfl, hid (by rw [List.take_zero, textsL, List.append_nil]), HO, HB⟩
   case round =>
    clear HB HO
    obtain ⟨j, l, hj, hl, rfl, HLE, HO, HB⟩ := hrel
    obtain ⟨x0, x1, x2, x3⟩ := HB.out.2.1.cells
    by_cases hlt : j < n
    ·have hjl : j < ds.length := by rw [HN.out]; exact hlt
     have hjz : (j : Int) < (n : Int) := by omega
     obtain ⟨b, o, e0, e1, e2, e3, rfl, hb, y0, y1, y2, y3, hnd⟩ := HB.out.nd.kid j hjl
     have hck : cntT (ds[j]'hjl) ≤ cntL ds := cntL_mem (List.getElem_mem hjl)
     have hR := HIH.out (ds[j]'hjl) (Nat.le_trans hck HCN.out.1) (by have := HCN.out.2; omega) e0 e1 e2 e3 wr hnd
     have HSN := hid (textsL_snoc hjl)
     have hls : l.length + (textsT (ds[j]'hjl)).length ≤ 100000 := by
      have h1 := textsL_len (ds.take (j + 1))
      have h2 := cntL_take_le ds (j + 1)
      rw [HSN.out, List.length_append] at h1
      have h3 := HCN.out.2
      rw [HLE.out, List.length_append]
      omega
     obtain ⟨L, hL⟩ : ∃ L, textsT (ds[j]'hjl) = L := ⟨_, rfl⟩
     rw [hL] at hR hls HSN
     have HR := hid hR
     obtain ⟨m, hm9⟩ : ∃ m, L.length = m := ⟨_, rfl⟩
     have HML := hid hm9
     rw [hm9] at HR hls
     clear hnd hck hR hL hm9
     go_wp2_with fail
     refine HR.out.mono ?_
     rintro e w2 ⟨lv, rfl, hol, hb2⟩
     have HB2 := hid (HB.out.go hb2)
     have HO2 := hid (owns_below HO.out hb2)
     have HNE : Hid (∀ g, lv.ownBlock = some g → u3.ownBlock ≠ some g) := hid fun g hg hs => by
      have h1 := (hol.lt g hg).1
      have h2 := (HO.out.lt g hs).2
      omega
     have HRL := hid (rd_of_owns hol)
     obtain ⟨la, lc, rfl⟩ := own_shape hol
     clear hb2 HB HO HR x0 x1 x2 x3 y0 y1 y2 y3 hol
     go_wp2
     go_loopw [3, 6] (fun sv sk wr => ∃ (q : Nat) (sv0 : Value), q ≤ m ∧ sk = .int .i64 (q : Int) ∧ sv = sv0 ∧ Hid (wr.ownsRow (w.heap.size + 1) 9 1 sv0 (l.length + q) ((l ++ L.take q).map encStr)) ∧ Hid (∀ g, Value.ownBlock (.slice la m lc) = some g → sv0.ownBlock ≠ some g) ∧ Hid (TB w wr (.mk k t ks ds) (.int .i64 k) (.string T) c2 (.slice (some ⟨b, o, none⟩) n cap)) ∧ Hid (Rd wr (.slice la m lc) L)) (fun _ sk _ => m - (intOf sk).toNat)
     case atStart => exact ⟨0, _, Nat.zero_le _, rfl, rfl, hid (by rw [List.take_zero, List.append_nil]; exact HO2.out), HNE, HB2, HRL⟩
     case round =>
      clear HO2 HNE HB2 HRL
      obtain ⟨q, sv0, hq, rfl, rfl, HO, HNE, HB, HRL⟩ := hrel
      by_cases hqm : q < m
      ·have hql : q < L.length := by rw [HML.out]; exact hqm
       have hqz : (q : Int) < (m : Int) := by omega
       obtain ⟨kb, ko, rfl, hkb, y0⟩ := rd_at HRL.out q hql
       obtain ⟨K, hK⟩ : ∃ K, ba (L[q]'hql) = K := ⟨_, rfl⟩
       rw [hK] at y0
       have HX : Hid ((l ++ L.take (q + 1)).map encStr = (l ++ L.take q).map encStr ++ [.string K]) := hid (by
        rw [List.take_succ_eq_append_getElem hql, ← List.append_assoc, List.map_append]
        show _ ++ [encStr (L[q]'hql)] = _
        rw [encStr_ba, hK])
       generalize (l ++ L.take q).map encStr = X at *
       have hsz := HB.out.size
       have hlt0 := fun g hg => (HO.out.lt g hg)
       have HLT := hid hlt0
       clear hK hlt0
       go_wp2_with (at_builtin; refine wpList_append_own_at _ rfl _ _ 22 rfl (w.heap.size + 1) 9 i0 _ 1 16 Tryz.underlying22 hi hz0 hz1 hz2 rfl (by decide) u3 (l.length + q) X rfl (HO.out.alloc _) _ 1 1 [.string K] rfl rfl (news_blk #[.string K] (alloc_at _ _)) (one_str K) (by unfold maxLen; omega) (by omega) (by simp; omega) ?_; intro v' w3 hownS hgS hnilS hblk)
       have hgS' : World.grownBy _ w3 u3.ownBlock := hgS
       have HO3 := hid hownS
       have HNE3 : Hid (∀ g, Value.ownBlock (.slice (some ⟨kb, ko, none⟩) m lc) = some g → v'.ownBlock ≠ some g) := hid fun g hg hs => by
        have h0 : kb = g := by injection hg
        have h1 : v'.ownBlock = u3.ownBlock ∨ v'.ownBlock = some (wr.heap.size + 1) := by
         rcases hblk with h | h
         ·exact .inl h
         ·exact .inr (by rw [h]; simp)
        rcases h1 with h | h
        ·exact HNE.out g hg (by rw [← h]; exact hs)
        ·rw [h] at hs; injection hs with hs; omega
       have hb3 : Below (w.heap.size + 1) wr w3 := ((Below.refl _ _).alloc hsz _).grown hgS' (by simp; omega) (fun g hg => (HLT.out g hg).1)
       have HB3 := hid (HB.out.far hb3)
       have HRL3 := hid (rd_grown (HRL.out.below (below_al wr _)) hgS' fun g hg => HNE.out g hg)
       clear hownS hgS hgS' hnilS hblk hb3
       go_roundw
       case measure => simp [intOf]; omega
       case rel => exact ⟨q + 1, v', by omega, by go_num, rfl, hid (by rw [HX.out]; exact HO3.out), HNE3, HB3, HRL3⟩
      ·obtain rfl : q = m := by omega
       have HLA : Hid (L.take q = L) := hid (List.take_of_length_le (by rw [HML.out]; exact Nat.le_refl _))
       have HO4 : Hid (wr.ownsRow (w.heap.size + 1) 9 1 u3 (l ++ L).length ((l ++ L).map encStr)) := hid (by rw [List.length_append, HML.out, ← HLA.out]; rw [HLA.out]; have := HO.out; rw [HLA.out] at this; exact this)
       have hlL : (l ++ L).length ≤ 100000 := by rw [List.length_append, HML.out]; exact hls
       go_wp2
       go_roundw
       case measure => simp [intOf]; omega
       case rel => exact ⟨j + 1, l ++ L, by omega, hlL, by go_num, hid (by rw [HSN.out, ← List.append_assoc, ← HLE.out]), HO4, HB⟩
    ·obtain rfl : j = n := by omega
     have HE : Hid (textsT (.mk k t ks ds) = l) := hid (by rw [HBE.out, HLE.out, List.take_of_length_le (by rw [HN.out]; exact Nat.le_refl _)])
     go_wp2
     go_ret
     exact ⟨_, rfl, by rw [HE.out]; exact owns_low HO.out (by omega), HB.out.1⟩
end Go.Proofs.YtkcilmmaggmmoaaGreatDoor
