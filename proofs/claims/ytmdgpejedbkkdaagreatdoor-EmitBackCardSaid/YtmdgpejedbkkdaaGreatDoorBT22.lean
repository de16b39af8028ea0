/- EmiMap, EmiInn, EmiFit -/
import Derived.Test.YtmdgpejedbkkdaaGreatDoorBT21
set_option linter.unusedVariables false
set_option linter.unusedSimpArgs false
set_option maxRecDepth 100000
set_option maxHeartbeats 16000000
open Go.Lib (hid)
namespace Go.Proofs.YtmdgpejedbkkdaaGreatDoor
section
open Go.RowKit Go.Sort
open Nw N8 Q6 F9 B10 E11
attribute [local go_sem] Oper.semAt_some
theorem Lim.mid {a b c : List L8} (h : Lim c) (hp : a ++ b <+: c) : Lim b := (h.pre hp).right
def MK (n0 C : Nat) (W : World) (J : List L8 → World → Prop) (Y : Value) (Ds : List Nat) (pre : List L8) (V0 : World) (b bk kb kc : Nat) (c0 c1 c2 c3 e0 e1 e2 e3 : Value) (K : ByteArray) (d : Nd) (V : World) : Prop :=
 V0.heap.size ≤ V.heap.size ∧ SQ11 n0 C W J Y Ds pre V ∧ Row4 V b 25 c0 c1 c2 c3 ∧ Row4 V bk 25 e0 e1 e2 e3 ∧ (kb < n0 ∧ V.cell? ⟨kb, kc, none⟩ = some (.string K)) ∧ NdC (· < n0) V d e0 e1 e2 e3
theorem MK.go {n0 C : Nat} {W : World} {J : List L8 → World → Prop} {Y : Value} {Ds : List Nat} {pre : List L8} {V0 : World} {b bk kb kc : Nat} {c0 c1 c2 c3 e0 e1 e2 e3 : Value} {K : ByteArray} {d : Nd} {V V' : World}
  (h : MK n0 C W J Y Ds pre V0 b bk kb kc c0 c1 c2 c3 e0 e1 e2 e3 K d V) (hJ : ∀ s V V', J s V → Turned T8 W.heap.size V V' → J s V') (hn : n0 ≤ W.heap.size) (hb : Below V.heap.size V V') : MK n0 C W J Y Ds pre V0 b bk kb kc c0 c1 c2 c3 e0 e1 e2 e3 K d V' := by
 obtain ⟨h0, h1, h2, h3, ⟨h4, h5⟩, h6⟩ := h
 have hlt := h1.lt.1
 exact ⟨Nat.le_trans h0 hb.size, h1.below hJ hb, below_heap hb h2, below_heap hb h3, ⟨h4, (hb.cell (p := ⟨kb, kc, none⟩) (show kb < V.heap.size by omega)).trans h5⟩, NdC.keep (fun q hq => ⟨hq, hb.block q (by omega)⟩) _ h6⟩
theorem map_iter (N : Nat) (HI : InnerOf N) (n0 C b : Nat) (k : Int) (t : L8) (ks : List L8) (ds : List Nd) (hkd : ks.length = ds.length) (hN : ∀ d ∈ ds, cntT d ≤ N) (hf : ∀ d ∈ ds, N8.Fine d) (ha : ∀ d ∈ ds, allT 1000000 d) (hak : ∀ k ∈ ks, k.length ≤ 1000000) (hlen : ds.length ≤ 1000000) (hlim : Lim (lnM ks ds)) (c0 c1 c2 c3 : Value) (w : World) (hC : C ≤ b) (h0C : n0 ≤ C)
  (hb : Row4 w b 25 c0 c1 c2 c3) (hd : NdC (· < n0) w (.mk k t ks ds) c0 c1 c2 c3) :
  IterOk Tryz.prog T8 n0 C 82 #[.pointer (some ⟨b, 0, none⟩)] (lnM ks ds) w := by
 intro l J W hW hJ hY h0
 have hn0w : n0 ≤ w.heap.size := by have := lt_of_heap hb; omega
 have hbW : Row4 W b 25 c0 c1 c2 c3 := kept_box hW hb hC (by decide)
 have hn0 : n0 ≤ W.heap.size := Nat.le_trans hn0w hW.size
 have hdW : NdC (· < n0) W (.mk k t ks ds) c0 c1 c2 c3 := NdC.keep (fun b h => ⟨h, (hW.below hn0w).block b h⟩) _ hd
 have hCW : C ≤ W.heap.size := by have := lt_of_heap hbW; omega
 clear hW hd hb
 have hc := hdW
 rw [NdC] at hc
 obtain ⟨rfl, rfl, ⟨a2, p2, rfl, hp2, hp2m, hk3⟩, A, cap, rfl, hcap, hcm, hA0, -⟩ := hc
 obtain ⟨n, hn⟩ : ∃ n, ds.length = n := ⟨_, rfl⟩
 have hkn : ks.length = n := by rw [hkd, hn]
 have HN := hid hn
 have HKN := hid hkn
 have HND := hid hdW
 have HY := hid hY
 have HJ := hid hJ
 have H0 := hid h0
 have HF := hid hf
 have HA := hid ha
 have HAK := hid hak
 have HM := hid hN
 have HB := hid hbW
 have HL := hid hlim
 have HK3 := hid hk3
 obtain ⟨x0, x1, x2, x3⟩ := (hbW.alloc (.cells #[.func (.yield l) #[] #[]] 53)).cells
 rw [hn] at x3 hcap hlen HB
 rw [hkn] at x2 hp2 HB
 clear hdW hY hJ h0 hf ha hak hN hbW hn hlim hkd hkn hk3
 refine callsIn_of_wp_marks Tryz.func82 rfl trivial ?_ rfl
 simp only [Tryz.ntmps82, List.size_toArray, List.length_cons, List.length_nil, Nat.reduceAdd, Nat.reduceSub, Array.replicate_succ, Array.replicate_zero, List.push_toArray, List.append_toArray, List.nil_append, List.cons_append]
 gi_wp2
 have HS0 : Hid (SQ11 n0 C W J (.func (.yield l) #[] #[]) [] (lnM (ks.take 0) (ds.take 0)) (W.alloc (.cells #[.func (.yield l) #[] #[]] 53))) := hid
  ⟨HJ.out _ _ _ (by rw [List.take_zero, List.take_zero, show lnM [] [] = [] by rw [lnM]; intros; contradiction]; exact H0.out) (.alloc _ _ _ _), .alloc _ _ _ _ _ _, World.alloc_heap_new W _, List.nodup_nil, fun D h => by cases h⟩
 clear x0 x1 x2 x3 H0
 generalize W.alloc (.cells #[.func (.yield l) #[] #[]] 53) = W1 at HS0 ⊢
 refine wpIn_loop (fun a V => ∃ (i : Nat) (Ds : List Nat) (u3 u4 u5 u10 u11 u12 u13 u14 u15 u16 u17 u18 u19 u20 u21 u22 u23 u24 u25 u26 u27 u28 : Value), i ≤ n ∧
   a = { tmps := #[.func (.yield l) #[] #[], .pointer (some ⟨b, 0, none⟩), .pointer (some ⟨W.heap.size, 0, none⟩), u3, u4, u5, .pointer (some ⟨b, 3, none⟩), .slice A n cap, .int .i64 (n : Int), .int .i64 (i : Int), u10, u11, u12, u13, u14, u15, u16, u17, u18, u19, u20, u21, u22, u23, u24, u25, u26, u27, u28], defers := Ds.map markOf } ∧
   Hid (SQ11 n0 C W J (.func (.yield l) #[] #[]) Ds (lnM (ks.take i) (ds.take i)) V)) (fun a _ => n - (intOf (a.tmps.getD 9 undef)).toNat) ?start ?round
 case start => exact ⟨0, [], _, _, _, _, _, _, _, _, _, _, _, _, _, _, _, _, _, _, _, _, _, _, Nat.zero_le _, rfl, HS0⟩
 case round =>
  clear HS0
  rintro a V ⟨i, Ds, u3, u4, u5, u10, u11, u12, u13, u14, u15, u16, u17, u18, u19, u20, u21, u22, u23, u24, u25, u26, u27, u28, hi, rfl, HS⟩
  by_cases hlt : i < n
  ·have hil : i < ds.length := by rw [HN.out]; exact hlt
   have hik : i < ks.length := by rw [HKN.out]; exact hlt
   have hiz : (i : Int) < (n : Int) := by omega
   have HV0 := hid (HS.out.2.1.below hn0)
   obtain ⟨g, o, E0, E1, E2, E3, rfl, hg, y0, y1, y2, y3, hnd⟩ := HND.out.kid i hil
   obtain ⟨k1, s1, a1, n1, q1, A1, m1, r1, rfl, rfl, rfl, rfl⟩ := hnd.cellsOk
   obtain ⟨kb, ko, rfl, hkb, hkc⟩ : ∃ kb ko, a2 = some ⟨kb, ko, none⟩ ∧ kb < n0 ∧ W.cell? ⟨kb, ko + i, none⟩ = some (.string (ba (ks[i]'hik))) := by
    rcases HK3.out with ⟨h, _⟩ | ⟨kb, ko, rfl, h1, h2⟩
    ·rw [h] at hik; cases hik
    ·exact ⟨kb, ko, rfl, h1, h2 i hik⟩
   obtain ⟨d, hdj⟩ : ∃ d, ds[i]'hil = d := ⟨_, rfl⟩
   obtain ⟨kk, hkj⟩ : ∃ kk, ks[i]'hik = kk := ⟨_, rfl⟩
   have hmem : d ∈ ds := by rw [← hdj]; exact List.getElem_mem hil
   have hmemk : kk ∈ ks := by rw [← hkj]; exact List.getElem_mem hik
   obtain ⟨ht1, ht2⟩ := lnM_take ks ds i hik hil
   rw [hdj] at hnd ht1
   rw [hkj] at hkc ht1
   obtain ⟨Q, hQ⟩ : ∃ Q, ba kk = Q := ⟨_, rfl⟩
   have hQl : Q.data.toList = kk := by rw [← hQ, ba_data]
   rw [hQ] at hkc
   obtain ⟨Z, hZ⟩ : ∃ Z, ba (keyw kk) = Z := ⟨_, rfl⟩
   have hZl : Z.data.toList = keyw kk := by rw [← hZ, ba_data]
   have hHl : (Z ++ ⟨#[58]⟩).data.toList = keyw kk ++ [58] := by rw [app_list, hZl]
   have hlime : Lim (entL (Z ++ ⟨#[58]⟩).data.toList d) := by rw [hHl]; exact HL.out.mid (by rw [← ht1]; exact ht2)
   have HT1 : Hid (lnM (ks.take (i + 1)) (ds.take (i + 1)) = lnM (ks.take i) (ds.take i) ++ entL (Z ++ ⟨#[58]⟩).data.toList d) := hid (by rw [hHl]; exact ht1)
   have HT2 := hid ht2
   have hzs : Z.size + 1 ≤ 1000000000 := by
    unfold entL at hlime
    by_cases hsh : shrt d = true
    ·rw [if_pos hsh] at hlime
     have := hlime _ List.mem_cons_self
     simp only [List.length_append, List.length_cons, List.length_nil, len_eq, ByteArray.size_append] at this
     have e1 : (⟨#[58]⟩ : ByteArray).size = 1 := rfl
     omega
    ·rw [if_neg hsh] at hlime
     have := hlime _ List.mem_cons_self
     rw [len_eq, ByteArray.size_append] at this
     exact this
   have hkq : (9223372036854775807 < Z.size + 1) = False := eq_false (by omega)
   have hc1 : (⟨#[58]⟩ : ByteArray).size = 1 := rfl
   have HKF := hid (fun W2 => keyForm_any Q W2 (by rw [← len_eq, hQl]; exact HAK.out kk hmemk) Z (by rw [hQl, hZl]))
   have HEL := hid (fun W2 (h1 : n0 ≤ W2.heap.size) h2 => entryLines_any N HI n0 d (HM.out d hmem) (HF.out d hmem) (HA.out d hmem) (Z ++ ⟨#[58]⟩) hlime (.int .i64 k1) (.string s1) (.slice a1 n1 q1) (.slice A1 m1 r1) W2 h1 h2)
   replace y0 := (HV0.out.cell (p := ⟨g, o + i * 4, none⟩) hg).trans y0
   replace y1 := (HV0.out.cell (p := ⟨g, o + i * 4 + 1, none⟩) hg).trans y1
   replace y2 := (HV0.out.cell (p := ⟨g, o + i * 4 + 2, none⟩) hg).trans y2
   replace y3 := (HV0.out.cell (p := ⟨g, o + i * 4 + 3, none⟩) hg).trans y3
   have HR0 := Row4.make V 25 (.int .i64 0) (.string ⟨#[]⟩) (.slice none 0 0) (.slice none 0 0)
   obtain ⟨p0, p1, p2', p3⟩ := HR0.cells
   obtain ⟨g0, g1, g2, g3⟩ := HR0.frozen
   clear HR0
   have hlt0 := HS.out.lt
   have HMK0 : Hid (MK n0 C W J (.func (.yield l) #[] #[]) Ds (lnM (ks.take i) (ds.take i)) V b V.heap.size kb (ko + i) (.int .i64 k) (.string (ba t)) (.slice (some ⟨kb, ko, none⟩) n p2) (.slice (some ⟨g, o, none⟩) n cap) (.int .i64 k1) (.string s1) (.slice a1 n1 q1) (.slice A1 m1 r1) Q d
     (V.alloc (.cells #[.int .i64 k1, .string s1, .slice a1 n1 q1, .slice A1 m1 r1] 25))) := hid
    ⟨by simp, HS.out.below HJ.out (below_alloc V _), below_heap (below_alloc V _) (kept_box HS.out.2.1 HB.out hC (by decide)), Row4.make V _ _ _ _ _, ⟨hkb, (((below_alloc V _).cell (p := ⟨kb, ko + i, none⟩) (show kb < V.heap.size by omega)).trans (HV0.out.cell (p := ⟨kb, ko + i, none⟩) hkb)).trans hkc⟩,
     NdC.keep (fun q hq => ⟨hq, ((below_alloc V _).block q (by omega)).trans (HV0.out.block q hq)⟩) _ hnd⟩
   have HLT := hid hlt0
   have HMG := hid (fun V1 V2 (h : MK n0 C W J (.func (.yield l) #[] #[]) Ds (lnM (ks.take i) (ds.take i)) V b V.heap.size kb (ko + i) (.int .i64 k) (.string (ba t)) (.slice (some ⟨kb, ko, none⟩) n p2) (.slice (some ⟨g, o, none⟩) n cap) (.int .i64 k1) (.string s1) (.slice a1 n1 q1) (.slice A1 m1 r1) Q d V1) hb => h.go HJ.out hn0 (V' := V2) hb)
   obtain ⟨T, hT⟩ : ∃ T, ba t = T := ⟨_, rfl⟩
   rw [hT] at HMK0 HMG
   clear hnd ht1 ht2 hmem hmemk hdj hkj hQ hQl hZ hZl hHl hlime hzs hkc hlt0 HV0 hT
   gi_wp2_with fail
   clear y0 y1 y2 y3 p0 p1 p2' p3 g0 g1 g2 g3
   generalize V.alloc (.cells #[.int .i64 k1, .string s1, .slice a1 n1 q1, .slice A1 m1 r1] 25) = V1 at HMK0 ⊢
   have HE := hid (show ∀ Vx, MK n0 C W J (.func (.yield l) #[] #[]) Ds (lnM (ks.take i) (ds.take i)) V b V.heap.size kb (ko + i) (.int .i64 k) (.string T) (.slice (some ⟨kb, ko, none⟩) n p2) (.slice (some ⟨g, o, none⟩) n cap) (.int .i64 k1) (.string s1) (.slice a1 n1 q1) (.slice A1 m1 r1) Q d Vx → (fun Vx => Vx.cell? ⟨b, 2, none⟩ = some (.slice (some ⟨kb, ko, none⟩) n p2) ∧ Vx.cell? ⟨kb, ko + i, none⟩ = some (.string Q) ∧ Vx.cell? ⟨V.heap.size, 0, none⟩ = some (.int .i64 k1) ∧ Vx.cell? ⟨V.heap.size, 1, none⟩ = some (.string s1) ∧ Vx.cell? ⟨V.heap.size, 2, none⟩ = some (.slice a1 n1 q1) ∧ Vx.cell? ⟨V.heap.size, 3, none⟩ = some (.slice A1 m1 r1) ∧ MK n0 C W J (.func (.yield l) #[] #[]) Ds (lnM (ks.take i) (ds.take i)) V b V.heap.size kb (ko + i) (.int .i64 k) (.string T) (.slice (some ⟨kb, ko, none⟩) n p2) (.slice (some ⟨g, o, none⟩) n cap) (.int .i64 k1) (.string s1) (.slice a1 n1 q1) (.slice A1 m1 r1) Q d Vx) Vx from fun Vx h => ⟨h.2.2.1.cells.2.2.1, h.2.2.2.2.1.2, h.2.2.2.1.cells.1, h.2.2.2.1.cells.2.1, h.2.2.2.1.cells.2.2.1, h.2.2.2.1.cells.2.2.2, h⟩)
   have hS1 := HE.out V1.drew (HMG.out _ _ HMK0.out (drewN_q V1 1))
   have hn0V : ∀ Vx, MK n0 C W J (.func (.yield l) #[] #[]) Ds (lnM (ks.take i) (ds.take i)) V b V.heap.size kb (ko + i) (.int .i64 k) (.string T) (.slice (some ⟨kb, ko, none⟩) n p2) (.slice (some ⟨g, o, none⟩) n cap) (.int .i64 k1) (.string s1) (.slice a1 n1 q1) (.slice A1 m1 r1) Q d Vx → n0 ≤ Vx.heap.size := fun Vx h => by have := h.2.1.lt.1; omega
   have HNV := hid hn0V
   clear hn0V HMK0
   refine wpIn_wide.2 ?_
   go_region_held3 (fun Vx => Vx.cell? ⟨b, 2, none⟩ = some (.slice (some ⟨kb, ko, none⟩) n p2) ∧ Vx.cell? ⟨kb, ko + i, none⟩ = some (.string Q) ∧ Vx.cell? ⟨V.heap.size, 0, none⟩ = some (.int .i64 k1) ∧ Vx.cell? ⟨V.heap.size, 1, none⟩ = some (.string s1) ∧ Vx.cell? ⟨V.heap.size, 2, none⟩ = some (.slice a1 n1 q1) ∧ Vx.cell? ⟨V.heap.size, 3, none⟩ = some (.slice A1 m1 r1) ∧ MK n0 C W J (.func (.yield l) #[] #[]) Ds (lnM (ks.take i) (ds.take i)) V b V.heap.size kb (ko + i) (.int .i64 k) (.string T) (.slice (some ⟨kb, ko, none⟩) n p2) (.slice (some ⟨g, o, none⟩) n cap) (.int .i64 k1) (.string s1) (.slice a1 n1 q1) (.slice A1 m1 r1) Q d Vx) (first | exact hS1 | exact hS2 | exact hS3)
    (first
     | (go_at_call 84; refine (HKF.out _).mono ?_; rintro e2 w2 ⟨rfl, hb2⟩; have hS2 := HE.out _ (HMG.out _ _ hS1.2.2.2.2.2.2 hb2))
     | (go_at_call 83; refine (HEL.out _ (HNV.out _ hS2.2.2.2.2.2.2) hS2.2.2.2.2.2.2.2.2.2.2.2).mono ?_; rintro e3 w3 ⟨v, rfl, hb3, hseq⟩; have hS3 := HE.out _ (HMG.out _ _ hS2.2.2.2.2.2.2 hb3)))
   have HSQ := hid hS3.2.2.2.2.2.2.2.1
   have hsz := hS2.2.2.2.2.2.2.1
   have hsz3 := hb3.size
   have hn02 := HNV.out _ hS2.2.2.2.2.2.2
   obtain ⟨gf, lb, rfl, eg, hit⟩ := hseq
   have hC2 : w2.heap.size ≤ w3.heap.size := hb3.size
   clear hS1 hS2 hS3 hb2 hb3 HE HMG HNV HKF HEL
   have hlW := HLT.out.1
   have hD2 : ∀ D ∈ Ds, D < w2.heap.size := fun D h => by have := HLT.out.2 D h; omega
   go_wp2
   gi_wp2
   refine wpIn_lines (n0 := n0) (C := w2.heap.size) (xs := entL (Z ++ ⟨#[58]⟩).data.toList d) rfl eg rfl hit (Nat.le_trans hn02 hC2) hC2
    (fun pre X => SQ11 n0 C W J (.func (.yield l) #[] #[]) Ds (lnM (ks.take i) (ds.take i) ++ pre) X)
    (fun s X X' h hT => h.turned HJ.out hT (by omega) (fun D hD => by have := hD2 D hD; omega))
    (by rw [List.append_nil]; exact HSQ.out) ?a1 ?assign ?body ?done
   case assign =>
    intro l x V K hK
    gi_wp2
    exact hK
   case body =>
    rintro l2 pre x X2 hpre hSQ
    have hp2 : (lnM (ks.take i) (ds.take i) ++ pre) ++ [x] = lnM (ks.take i) (ds.take i) ++ (pre ++ [x]) := List.append_assoc _ _ _
    have hp1 : (lnM (ks.take i) (ds.take i) ++ pre) ++ [x] <+: lnM ks ds := by
     rw [hp2]
     refine List.IsPrefix.trans ?_ HT2.out
     rw [HT1.out]
     exact (List.prefix_append_right_inj _).2 hpre
    obtain ⟨q, hq⟩ : ∃ q : ByteArray, q.data.toList = x := ⟨ba x, ba_data x⟩
    obtain ⟨fn, tmps, assign, body, hy, hR⟩ := HY.out _ _ X2 hp1 hSQ.1
    rw [hp2] at hR
    rw [enc_q hq] at hy
    have e1 := enc_q hq
    have c1 := cell_box hSQ.2.2.1
    have HSQ2 := hid hSQ
    clear hp1 hp2 hpre hSQ hq
    simp only [e1]
    gi_wp2
    refine (roundIn_any hR).mono ?_
    rintro e X3 ⟨rfl, hj3, hk3⟩
    have HS4 := hid (HSQ2.out.kept hj3 hk3)
    have HK3 := hid (hk3.mono (Nat.le_refl _) (by omega) (by omega) (C' := w2.heap.size) (B' := w2.heap.size))
    clear hj3 hk3 hR hy c1
    gi_wp2
    exact ⟨HS4.out, HK3.out⟩
   case done =>
    rintro D X3 hD hSQ hm
    have HSQ3 := hid (hSQ.mark (B' := w2.heap.size) (by omega) hD2 (by omega) hm)
    clear hSQ hm hD
    dsimp only
    gi_wp2
    refine ⟨⟨i + 1, D :: Ds, _, _, _, _, _, _, _, _, _, _, _, _, _, _, _, _, _, _, _, _, _, _, by omega, rfl, hid (by rw [HT1.out]; exact HSQ3.out)⟩, ?_⟩
    simp [intOf]
    omega
  ·obtain rfl : i = n := by omega
   gi_wp2
   refine leaves_marks Ds V HS.out.2.2.2.1 (fun D hD => (HS.out.2.2.2.2 D hD).2) ⟨_, results_none rfl _ _ _, ⟨_, rfl⟩, ?_⟩
   have := HS.out.shut HJ.out
   rwa [List.take_of_length_le (by rw [HKN.out]; exact Nat.le_refl _), List.take_of_length_le (by rw [HN.out]; exact Nat.le_refl _)] at this
end
section
open Go.RowKit Go.Sort
open Nw N8 Q6 F9 B10 E11
theorem seqLines_any (k : Int) (s : ByteArray) (a : Option Addr) (n c : Nat) (A : Option Addr) (m q : Nat) (w : World) :
  Calls Tryz.prog 58 #[.agg #[.int .i64 k, .string s, .slice a n c, .slice A m q]] w fun e w' => e = .returned (.func (.func 81) #[] #[.pointer (some ⟨w.heap.size, 0, none⟩)]) ∧ w' = w.alloc (.cells #[.int .i64 k, .string s, .slice a n c, .slice A m q] 25) := by
 go_enter Tryz.func58, Tryz.ntmps58
 go_wp2
 go_ret
 exact ⟨rfl, rfl⟩
theorem mapLines_any (k : Int) (s : ByteArray) (a : Option Addr) (n c : Nat) (A : Option Addr) (m q : Nat) (w : World) :
  Calls Tryz.prog 59 #[.agg #[.int .i64 k, .string s, .slice a n c, .slice A m q]] w fun e w' => e = .returned (.func (.func 82) #[] #[.pointer (some ⟨w.heap.size, 0, none⟩)]) ∧ w' = w.alloc (.cells #[.int .i64 k, .string s, .slice a n c, .slice A m q] 25) := by
 go_enter Tryz.func59, Tryz.ntmps59
 go_wp2
 go_ret
 exact ⟨rfl, rfl⟩
def NK (n0 : Nat) (w : World) (d : Nd) (c0 c1 c2 c3 : Value) (W : World) : Prop :=
 Below w.heap.size w W ∧ Row4 W w.heap.size 25 c0 c1 c2 c3 ∧ NdC (· < n0) W d c0 c1 c2 c3
theorem NK.go {n0 : Nat} {w : World} {d : Nd} {c0 c1 c2 c3 : Value} {W W' : World} (h : NK n0 w d c0 c1 c2 c3 W) (hn : n0 ≤ w.heap.size) (hb : Below W.heap.size W W') : NK n0 w d c0 c1 c2 c3 W' :=
 ⟨h.1.trans (hb.mono h.1.size), below_heap hb h.2.1, NdC.keep (fun b hlt => ⟨hlt, hb.block b (by have := h.1.size; omega)⟩) _ h.2.2⟩
theorem NK.start {n0 : Nat} {w : World} {d : Nd} {c0 c1 c2 c3 : Value} (hn : n0 ≤ w.heap.size) (hd : NdC (· < n0) w d c0 c1 c2 c3) : NK n0 w d c0 c1 c2 c3 (w.alloc (.cells #[c0, c1, c2, c3] 25)) :=
 ⟨below_alloc w _, Row4.make w _ _ _ _ _, NdC.keep (fun b hlt => ⟨hlt, (below_alloc w _).block b (by omega)⟩) _ hd⟩
theorem NK.nd {n0 : Nat} {w : World} {d : Nd} {c0 c1 c2 c3 : Value} {W : World} (h : NK n0 w d c0 c1 c2 c3 W) (hn : n0 ≤ w.heap.size) : NdW W d c0 c1 c2 c3 :=
 NdC.keep (fun b hlt => ⟨by have := h.1.size; omega, rfl⟩) _ h.2.2
theorem fine_keys {t : L8} {ks : List L8} {ds : List Nd} (h : N8.Fine (.mk 3 t ks ds)) : ks.length = ds.length := by
 cases h with
 | mk h0 h3 hf hk hd => exact (hk rfl).1
theorem all_kids {M : Nat} {k : Int} {t : L8} {ks : List L8} {ds : List Nd} (h : allT M (.mk k t ks ds)) : (∀ x ∈ ks, x.length ≤ M) ∧ ∀ d ∈ ds, allT M d := by
 rw [allT] at h
 exact ⟨h.2.1, allL_iff.1 h.2.2⟩
theorem inner_any : ∀ N : Nat, N ≤ 1000000 → InnerOf N
 | 0, _ => by intro d hc; have := cntT_pos d; omega
 | N + 1, hN => by
  have ih := inner_any N (by omega)
  intro d hc hf ha hlim n0 c0 c1 c2 c3 w hn hd
  obtain ⟨k1, s1, a1, n1, q1, A1, m1, r1, rfl, rfl, rfl, rfl⟩ := hd.cellsOk
  have HK := hid (NK.start hn hd)
  have HS := hid (fun b hb W hW => isShort_any d hf b hb (.int .i64 k1) (.string s1) (.slice a1 n1 q1) (.slice A1 m1 r1) W hW)
  obtain ⟨sh, hsh⟩ : ∃ sh, shrt d = sh := ⟨_, rfl⟩
  have HS1 := hid (fun W hW => HS.out sh hsh W hW)
  obtain ⟨x0, x1, x2, x3⟩ := HK.out.2.1.cells
  clear HS
  cases sh with
  | true =>
   rw [lnT_short hsh] at hlim ⊢
   obtain ⟨Z, hZ⟩ : ∃ Z, ba (scal d) = Z := ⟨_, rfl⟩
   have hZl : Z.data.toList = scal d := by rw [← hZ, ba_data]
   have HZ := hid (fun W hW => shortForm_any d hf (text_all ha) Z hZl.symm (.int .i64 k1) (.string s1) (.slice a1 n1 q1) (.slice A1 m1 r1) W hW)
   have HO := hid (fun W => oneLine_any n0 Z W)
   rw [← hZl]
   clear hlim hc ha hsh hZ hZl hf hd ih
   go_enter Tryz.func38, Tryz.ntmps38
   go_wp2_with fail
   generalize w.alloc (.cells #[.int .i64 k1, .string s1, .slice a1 n1 q1, .slice A1 m1 r1] 25) = W1 at *
   refine (HS1.out _ (HK.out.nd hn)).mono ?_
   rintro e W2 ⟨rfl, hb2⟩
   have HK2 := hid (HK.out.go hn hb2)
   clear x0 x1 x2 x3 hb2
   obtain ⟨x0, x1, x2, x3⟩ := HK2.out.2.1.cells
   go_wp2_with fail
   refine (HZ.out _ (HK2.out.nd hn)).mono ?_
   rintro e W3 ⟨rfl, hb3⟩
   have HK3 := hid (HK2.out.go hn hb3)
   clear x0 x1 x2 x3 hb3
   go_wp2_with fail
   refine (HO.out _).mono ?_
   rintro e W4 ⟨v, rfl, hb4, hseq⟩
   have HR := hid (And.intro (HK3.out.go hn hb4).1 (hseq.lower HK3.out.1.size))
   clear hb4 hseq
   go_wp2
   go_ret
   exact ⟨_, rfl, HR.out.1, HR.out.2⟩
  | false =>
   obtain ⟨k, t, ks, ds⟩ := d
   obtain ⟨⟨h0, h3⟩, -, -, -, hfd⟩ := fine_in hf
   obtain ⟨hak, had⟩ := all_kids ha
   rw [lnT_long hsh] at hlim ⊢
   have hk2 : ¬ k < 2 := by
    unfold shrt at hsh
    rw [Bool.or_eq_false_iff] at hsh
    exact of_decide_eq_false hsh.1
   have hcN : cntL ds ≤ N := by rw [cntT] at hc; omega
   have hlen : ds.length ≤ 1000000 := by have := cntL_len ds; omega
   have hcn : ∀ d ∈ ds, cntT d ≤ N := fun d h => Nat.le_trans (cntL_in h) hcN
   have hkk : k1 = k := by
    rw [NdC] at hd
    have := hd.1
    injection this
   subst hkk
   by_cases h2 : k1 = 2
   ·subst h2
    rw [if_pos rfl] at hlim ⊢
    have HIT := hid (fun W b (hb1 : w.heap.size ≤ b) hb hnd => seq_iter N ih n0 w.heap.size b 2 t ks ds hcn hfd had hlen hlim (.int .i64 2) (.string s1) (.slice a1 n1 q1) (.slice A1 m1 r1) W hb1 hn hb hnd)
    have HL := hid (fun W => seqLines_any 2 s1 a1 n1 q1 A1 m1 r1 W)
    clear hlim hc ha hsh hf hd ih hfd had hak hcn hlen hcN h0 h3 hk2
    go_enter Tryz.func38, Tryz.ntmps38
    go_wp2_with fail
    generalize w.alloc (.cells #[.int .i64 2, .string s1, .slice a1 n1 q1, .slice A1 m1 r1] 25) = W1 at *
    refine (HS1.out _ (HK.out.nd hn)).mono ?_
    rintro e W2 ⟨rfl, hb2⟩
    have HK2 := hid (HK.out.go hn hb2)
    clear x0 x1 x2 x3 hb2
    obtain ⟨x0, x1, x2, x3⟩ := HK2.out.2.1.cells
    go_wp2_with fail
    refine (HL.out _).mono ?_
    rintro e W3 ⟨rfl, rfl⟩
    have HK3 := hid (HK2.out.go hn (below_alloc W2 (.cells #[.int .i64 2, .string s1, .slice a1 n1 q1, .slice A1 m1 r1] 25)))
    have HR := hid (HIT.out _ W2.heap.size HK2.out.1.size (Row4.make W2 25 (.int .i64 2) (.string s1) (.slice a1 n1 q1) (.slice A1 m1 r1)) HK3.out.2.2)
    clear x0 x1 x2 x3
    generalize W2.alloc (.cells #[.int .i64 2, .string s1, .slice a1 n1 q1, .slice A1 m1 r1] 25) = W3 at HK3 HR ⊢
    go_wp2
    go_ret
    exact ⟨_, rfl, HK3.out.1, _, _, rfl, enters_of Tryz.func81 (by kernel_rfl) rfl, HR.out⟩
   ·have h33 : k1 = 3 := by omega
    subst h33
    rw [if_neg (by decide)] at hlim ⊢
    have HIT := hid (fun W b (hb1 : w.heap.size ≤ b) hb hnd => map_iter N ih n0 w.heap.size b 3 t ks ds (fine_keys hf) hcn hfd had hak hlen hlim (.int .i64 3) (.string s1) (.slice a1 n1 q1) (.slice A1 m1 r1) W hb1 hn hb hnd)
    have HL := hid (fun W => mapLines_any 3 s1 a1 n1 q1 A1 m1 r1 W)
    clear hlim hc ha hsh hf hd ih hfd had hak hcn hlen hcN h0 h3 hk2 h2
    go_enter Tryz.func38, Tryz.ntmps38
    go_wp2_with fail
    generalize w.alloc (.cells #[.int .i64 3, .string s1, .slice a1 n1 q1, .slice A1 m1 r1] 25) = W1 at *
    refine (HS1.out _ (HK.out.nd hn)).mono ?_
    rintro e W2 ⟨rfl, hb2⟩
    have HK2 := hid (HK.out.go hn hb2)
    clear x0 x1 x2 x3 hb2
    obtain ⟨x0, x1, x2, x3⟩ := HK2.out.2.1.cells
    go_wp2_with fail
    refine (HL.out _).mono ?_
    rintro e W3 ⟨rfl, rfl⟩
    have HK3 := hid (HK2.out.go hn (below_alloc W2 (.cells #[.int .i64 3, .string s1, .slice a1 n1 q1, .slice A1 m1 r1] 25)))
    have HR := hid (HIT.out _ W2.heap.size HK2.out.1.size (Row4.make W2 25 (.int .i64 3) (.string s1) (.slice a1 n1 q1) (.slice A1 m1 r1)) HK3.out.2.2)
    clear x0 x1 x2 x3
    generalize W2.alloc (.cells #[.int .i64 3, .string s1, .slice a1 n1 q1, .slice A1 m1 r1] 25) = W3 at HK3 HR ⊢
    go_wp2
    go_ret
    exact ⟨_, rfl, HK3.out.1, _, _, rfl, enters_of Tryz.func82 (by kernel_rfl) rfl, HR.out⟩
end
section
open Go.RowKit Go.Sort
open Nw N8 Q6 F9 B10 E11
structure But (r : Nat) (w w' : World) : Prop where
 os : w'.os = w.os
 tape : w'.tape = w.tape
 output : w'.output = w.output
 size : w.heap.size ≤ w'.heap.size
 block : ∀ k, k < w.heap.size → k ≠ r → w'.heap[k]? = w.heap[k]?
theorem But.refl (r : Nat) (w : World) : But r w w := ⟨rfl, rfl, rfl, Nat.le_refl _, fun _ _ _ => rfl⟩
theorem But.trans {r : Nat} {a b c : World} (h : But r a b) (k : But r b c) : But r a c :=
 ⟨k.os.trans h.os, k.tape.trans h.tape, k.output.trans h.output, Nat.le_trans h.size k.size, fun i hi hr => (k.block i (Nat.lt_of_lt_of_le hi h.size) hr).trans (h.block i hi hr)⟩
theorem But.of {r : Nat} {a b : World} (h : Below a.heap.size a b) : But r a b := ⟨h.os, h.tape, h.output, h.size, fun k hk _ => h.block k hk⟩
theorem But.set (r : Nat) (w : World) (v : Value) : But r w (w.setCell ⟨r, 0, none⟩ v) := ⟨rfl, rfl, rfl, by simp [World.setCell], fun k _ hr => Below.heap_setCell _ _ _ _ hr⟩
theorem But.heap {r : Nat} {w w' : World} (h : But r w w') {k : Nat} {o : Obj} (ho : w.heap[k]? = some o) (hr : k ≠ r) : w'.heap[k]? = some o := (h.block k (lt_of_heap ho) hr).trans ho
theorem But.below {r n : Nat} {w w' : World} (h : But r w w') (hn : n ≤ r) (hs : n ≤ w.heap.size) : Below n w w' := ⟨h.os, h.tape, h.output, h.size, fun k hk => h.block k (by omega) (by omega)⟩
def Rm11 (r : Nat) (m : Int) (w : World) : Prop := w.heap[r]? = some (.cells #[.int .i64 m] 3 (0, 0))
theorem Rm11.on {r : Nat} {m : Int} {w w' : World} (h : Rm11 r m w) (hb : Below w.heap.size w w') : Rm11 r m w' := below_heap hb h
def FitsOf (N : Nat) : Prop := ∀ (d : Nd), cntT d ≤ N → N8.Fine d → ∀ (nest m m' : Int) (r n0 : Nat) (c0 c1 c2 c3 : Value) (w : World), (depT d : Int) ≤ nest → nest ≤ 1000 → (cntT d : Int) ≤ m → m ≤ 100000 → m' = m - cntT d → n0 ≤ r → NdC (· < n0) w d c0 c1 c2 c3 → Rm11 r m w →
  Calls Tryz.prog 54 #[.agg #[c0, c1, c2, c3], .int .i64 nest, .pointer (some ⟨r, 0, none⟩)] w fun e w' => e = .returned (.bool true) ∧ Rm11 r m' w' ∧ But r w w'
theorem fits1_any (N : Nat) (ih : FitsOf N) (d : Nd) (hc : cntT d ≤ N) (hf : N8.Fine d) (nest m m' : Int) (r n0 bn bp : Nat) (c0 c1 c2 c3 : Value) (w : World) (hdp : (depT d : Int) + 1 ≤ nest) (hn : nest ≤ 1000) (hcm : (cntT d : Int) ≤ m) (hm : m ≤ 100000) (hm' : m' = m - cntT d) (hr : n0 ≤ r)
  (hd : NdC (· < n0) w d c0 c1 c2 c3) (hrm : Rm11 r m w) (hbn : w.cell? ⟨bn, 0, none⟩ = some (.int .i64 nest)) (hbp : w.cell? ⟨bp, 0, none⟩ = some (.pointer (some ⟨r, 0, none⟩))) :
  Calls Tryz.prog 80 #[.agg #[c0, c1, c2, c3], .pointer (some ⟨bn, 0, none⟩), .pointer (some ⟨bp, 0, none⟩)] w fun e w' => e = .returned (.bool false) ∧ Rm11 r m' w' ∧ But r w w' := by
 obtain ⟨k1, s1, a1, n1, q1, A1, m1, r1, rfl, rfl, rfl, rfl⟩ := hd.cellsOk
 have hlr := lt_of_heap hrm
 have hal := below_alloc w (.cells #[.int .i64 k1, .string s1, .slice a1 n1 q1, .slice A1 m1 r1] 25)
 have HAL := hid hal
 obtain ⟨nn, hnn⟩ : ∃ nn, nest - 1 = nn := ⟨_, rfl⟩
 have hw : IntKind.i64.wrap (nest - 1) = nn := by rw [hnn]; exact wrap_small _ (by omega) (by omega)
 have HF := hid (ih d hc hf nn m m' r n0 (.int .i64 k1) (.string s1) (.slice a1 n1 q1) (.slice A1 m1 r1) _ (by omega) (by omega) hcm hm hm' hr (NdC.keep (fun b h => ⟨h, hal.block b (by omega)⟩) _ hd) (hrm.on hal))
 obtain ⟨x0, x1, x2, x3⟩ := (Row4.make w 25 (.int .i64 k1) (.string s1) (.slice a1 n1 q1) (.slice A1 m1 r1)).cells
 have y0 := (hal.cell (p := ⟨bn, 0, none⟩) (World.block_lt_of_cell? _ _ hbn)).trans hbn
 have y1 := (hal.cell (p := ⟨bp, 0, none⟩) (World.block_lt_of_cell? _ _ hbp)).trans hbp
 clear hd hrm hbn hbp hnn hal hc hf ih hcm hm hm' hr hlr hdp hn
 go_enter Tryz.func80, Tryz.ntmps80
 go_wp2_with fail
 refine HF.out.mono ?_
 rintro e w2 ⟨rfl, hr2, hb2⟩
 have HR := hid (And.intro hr2 ((But.of HAL.out).trans hb2))
 clear hr2 hb2 x0 x1 x2 x3 y0 y1
 go_wp2
 go_ret
 exact ⟨rfl, HR.out.1, HR.out.2⟩
theorem cntL_take : ∀ (ds : List Nd) (i : Nat) (hi : i < ds.length), cntL (ds.take (i + 1)) = cntL (ds.take i) + cntT (ds[i]'hi) ∧ cntL (ds.take (i + 1)) ≤ cntL ds
 | d :: ds, 0, _ => by
  show cntL [d] = cntL [] + cntT d ∧ cntL [d] ≤ cntL (d :: ds)
  simp only [cntL]
  omega
 | d :: ds, i + 1, hi => by
  obtain ⟨h1, h2⟩ := cntL_take ds i (Nat.lt_of_succ_lt_succ hi)
  show cntL (d :: ds.take (i + 1)) = cntL (d :: ds.take i) + cntT (ds[i]'_) ∧ cntL (d :: ds.take (i + 1)) ≤ cntL (d :: ds)
  simp only [cntL]
  omega
theorem fitsIndex_any (N : Nat) (ih : FitsOf N) (k : Int) (t : L8) (ks : List L8) (ds : List Nd) (hN : cntL ds ≤ N) (hf : ∀ d ∈ ds, N8.Fine d) (nest m m' : Int) (r n0 bn bp : Nat) (c0 c1 c2 : Value) (A : Option Addr) (n cap : Nat) (w : World) (hn : ds.length = n) (hcap : n ≤ cap) (hcapm : cap ≤ maxLen) (hdp : (depL ds : Int) + 1 ≤ nest) (hne : nest ≤ 1000) (hcm : (cntL ds : Int) ≤ m) (hm : m ≤ 100000) (hm' : m' = m - cntL ds) (hr : n0 ≤ r) (hrn : bn ≠ r) (hrp : bp ≠ r)
  (hd : NdC (· < n0) w (.mk k t ks ds) c0 c1 c2 (.slice A n cap)) (hrm : Rm11 r m w) (hbn : w.heap[bn]? = some (.cells #[.int .i64 nest] 3 (0, 0))) (hbp : w.heap[bp]? = some (.cells #[.pointer (some ⟨r, 0, none⟩)] 81 (0, 0))) :
  Calls Tryz.prog 114 #[.slice A n cap, .func (.func 80) #[] #[.pointer (some ⟨bn, 0, none⟩), .pointer (some ⟨bp, 0, none⟩)]] w fun e w' => e = .returned (.int .i64 (-1)) ∧ Rm11 r m' w' ∧ But r w w' := by
 have eg : ∀ args w, (callFunc 80 args).run Tryz.prog w = .ok (.enter 80 args) w := enters_of Tryz.func80 (by kernel_rfl) rfl
 have hlr := lt_of_heap hrm
 have HD := hid hd
 have HN := hid hn
 have HC := hid (And.intro hN hf)
 have HDP := hid hdp
 have HCM := hid hcm
 have HM' := hid hm'
 have HBN := hid hbn
 have HBP := hid hbp
 have hnl := cntL_len ds
 have HNB : Hid (n ≤ 100000) := hid (by omega)
 unfold maxLen at hcapm
 have HR0 : Hid (Rm11 r (m - (cntL (ds.take 0) : Nat)) w ∧ But r w w) := hid ⟨by rw [List.take_zero]; simpa [cntL] using hrm, But.refl _ _⟩
 have HLR := hid hlr
 clear hd hn hN hf hdp hcm hm' hbn hbp hrm hnl hlr
 go_enter Tryz.func114, Tryz.ntmps114
 go_wp2
 go_loopw [5, 8] (fun s5 si wr => ∃ (i : Nat), i ≤ n ∧ si = .int .i64 (i : Int) ∧ Hid (Rm11 r (m - (cntL (ds.take i) : Nat)) wr ∧ But r w wr)) (fun _ si _ => n - (intOf si).toNat)
 case atStart => exact ⟨0, Nat.zero_le _, rfl, HR0⟩
 case round =>
  clear HR0
  obtain ⟨i, hi, rfl, HRI⟩ := hrel
  by_cases hin : i < n
  ·have hil : i < ds.length := by rw [HN.out]; exact hin
   have hiz : (i : Int) < (n : Int) := by omega
   have hn0w : n0 ≤ w.heap.size := by have := HLR.out; omega
   have hbl := HRI.out.2.below hr hn0w
   obtain ⟨b, o, E0, E1, E2, E3, rfl, hb, y0, y1, y2, y3, hnd⟩ := (NdC.keep (T := (· < n0)) (fun b h => ⟨h, hbl.block b h⟩) _ HD.out).kid i hil
   obtain ⟨k1, s1, a1, n1, q1, A1, m1, r1, rfl, rfl, rfl, rfl⟩ := hnd.cellsOk
   obtain ⟨d, hdj⟩ : ∃ d, ds[i]'hil = d := ⟨_, rfl⟩
   have hmem : d ∈ ds := by rw [← hdj]; exact List.getElem_mem hil
   obtain ⟨ht1, ht2⟩ := cntL_take ds i hil
   rw [hdj] at hnd ht1
   have hdd := depL_in hmem
   have HR := hid (fits1_any N ih d (Nat.le_trans (cntL_in hmem) HC.out.1) (HC.out.2 d hmem) nest (m - (cntL (ds.take i) : Nat)) (m - (cntL (ds.take (i + 1)) : Nat)) r n0 bn bp (.int .i64 k1) (.string s1) (.slice a1 n1 q1) (.slice A1 m1 r1) wr (by have := HDP.out; omega) hne (by have := HCM.out; omega) (by omega) (by omega) hr hnd HRI.out.1
    (cell_box (HRI.out.2.heap HBN.out hrn)) (cell_box (HRI.out.2.heap HBP.out hrp)))
   clear hnd ht1 ht2 hdd hmem hdj hbl
   go_wp2_with (go_at_fn 80; refine HR.out.mono ?_; rintro e w2 ⟨rfl, hr2, hb2⟩)
   have HRJ := hid (And.intro hr2 (HRI.out.2.trans hb2))
   clear hr2 hb2
   go_roundw
   case measure => simp [intOf]; omega
   case rel => exact ⟨i + 1, by omega, by go_num, HRJ⟩
  ·obtain rfl : i = n := by omega
   have HE := hid HRI.out
   go_wp2
   go_ret
   refine ⟨rfl, ?_, HRI.out.2⟩
   have := HRI.out.1
   rwa [List.take_of_length_le (by rw [HN.out]; exact Nat.le_refl _), ← HM'.out] at this
end
end Go.Proofs.YtmdgpejedbkkdaaGreatDoor
