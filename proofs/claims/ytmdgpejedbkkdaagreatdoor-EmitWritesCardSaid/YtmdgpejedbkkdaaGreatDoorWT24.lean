/- EmiEnt, EmiMap -/
import Derived.Deep.CutRange
import Derived.Deep.RegionHeld3
import Derived.Test.YtmdgpejedbkkdaaGreatDoorWT23
set_option linter.unusedVariables false
set_option linter.unusedSimpArgs false
set_option maxRecDepth 100000
set_option maxHeartbeats 16000000
open Go.Lib (hid)
namespace Go.Proofs.YtmdgpejedbkkdaaGreatDoor
section
open Go.RowKit Go.Sort
open Nw N8 Q6 F9 B10 E11
attribute [local go_sem] Oper.semAt_some
theorem IterOk.lower {P : Program} {t : TypeId} {n0 C C' : Nat} {gf : Nat} {lb : Array Value} {xs : List L8} {w : World} (h : IterOk P t n0 C gf lb xs w) (hC : C' ≤ C) : IterOk P t n0 C' gf lb xs w :=
 fun l J W hW hJ hY h0 => h l J W (hW.mono (Nat.le_refl _) hC (Nat.le_refl _)) hJ (fun pre x V hp hj => by
  obtain ⟨fn, tmps, assign, body, hy, hR⟩ := hY pre x V hp hj
  exact ⟨fn, tmps, assign, body, hy, hR.mono fun e V' ⟨h1, h2, h3⟩ => ⟨h1, h2, h3.mono (Nat.le_refl _) hC (Nat.le_refl _)⟩⟩) h0
theorem Seqs.lower {P : Program} {t : TypeId} {n0 C C' : Nat} {v : Value} {xs : List L8} {w : World} (h : Seqs P t n0 C v xs w) (hC : C' ≤ C) : Seqs P t n0 C' v xs w := by
 obtain ⟨gf, lb, h1, h2, h3⟩ := h
 exact ⟨gf, lb, h1, h2, h3.lower hC⟩
def spL (pre : List L8) : List L8 := pre.map fun y => [32, 32] ++ y
theorem spL_snoc (pre : List L8) (x : L8) : spL (pre ++ [x]) = spL pre ++ [[32, 32] ++ x] := by unfold spL; simp
theorem spL_pre {pre xs : List L8} (h : pre <+: xs) : spL pre <+: spL xs := h.map _
theorem Lim.sp {h : L8} {l : List L8} (hl : Lim (h :: spL l)) : Lim l := fun x hx => by
 have := hl ([32, 32] ++ x) (List.mem_cons_of_mem _ (List.mem_map.2 ⟨x, hx, rfl⟩))
 simp only [List.length_append, List.length_cons, List.length_nil] at this
 omega
theorem ent_iter (N : Nat) (HI : InnerOf N) (n0 C bh b : Nat) (d : Nd) (hcd : cntT d ≤ N) (hfd : N8.Fine d) (had : allT 1000000 d) (H : ByteArray) (hlim : Lim (H.data.toList :: spL (lnT d))) (c0 c1 c2 c3 : Value) (w : World) (hCh : C ≤ bh) (hC : C ≤ b) (h0C : n0 ≤ C)
  (hbh : w.heap[bh]? = some (.cells #[.string H] 9 (0, 0))) (hb : Row4 w b 25 c0 c1 c2 c3) (hd : NdC (· < n0) w d c0 c1 c2 c3) :
  IterOk Tryz.prog T8 n0 C 115 #[.pointer (some ⟨bh, 0, none⟩), .pointer (some ⟨b, 0, none⟩)] (H.data.toList :: spL (lnT d)) w := by
 intro l J W hW hJ hY h0
 have hn0w : n0 ≤ w.heap.size := by have := lt_of_heap hb; omega
 have hbW : Row4 W b 25 c0 c1 c2 c3 := kept_box hW hb hC (by decide)
 have hbhW := kept_box hW hbh hCh (by decide)
 have hn0 : n0 ≤ W.heap.size := Nat.le_trans hn0w hW.size
 have hdW : NdC (· < n0) W d c0 c1 c2 c3 := NdC.keep (fun b h => ⟨h, (hW.below hn0w).block b h⟩) _ hd
 have hCW : C ≤ W.heap.size := by have := lt_of_heap hbW; omega
 clear hW hd hb hbh
 obtain ⟨k1, s1, a1, n1, q1, A1, m1, r1, rfl, rfl, rfl, rfl⟩ := hdW.cellsOk
 have HS0 : SQ11 n0 C W J (.func (.yield l) #[] #[]) [] [] (W.alloc (.cells #[.func (.yield l) #[] #[]] 53)) :=
  ⟨hJ _ _ _ h0 (.alloc _ _ _ _), .alloc _ _ _ _ _ _, World.alloc_heap_new W _, List.nodup_nil, fun D h => by cases h⟩
 obtain ⟨fn, tmps, assign, body, hy, hR⟩ := hY [] H.data.toList _ (by rw [List.nil_append]; exact ⟨spL (lnT d), rfl⟩) HS0.1
 rw [enc_q (q := H) rfl] at hy
 have HND := hid hdW
 have HY := hid hY
 have HJ := hid hJ
 have HL := hid hlim
 have HBX := hid (hbW.alloc (.cells #[.func (.yield l) #[] #[]] 53))
 have hbh1 := below_heap (below_alloc W (.cells #[.func (.yield l) #[] #[]] 53)) hbhW
 have c1' := cell_box HS0.2.2.1
 have c2' := cell_box hbh1
 have HSW := hid HS0
 clear hdW hY hJ h0 hlim hbW hbhW hbh1 HS0
 refine callsIn_of_wp_marks Tryz.func115 rfl trivial ?_ rfl
 simp only [Tryz.ntmps115, List.size_toArray, List.length_cons, List.length_nil, Nat.reduceAdd, Nat.reduceSub, Array.replicate_succ, Array.replicate_zero, List.push_toArray, List.append_toArray, List.nil_append, List.cons_append]
 gi_wp2
 refine (roundIn_any hR).mono ?_
 rintro e X ⟨rfl, hj, hk⟩
 have HS1 := hid (HSW.out.kept hj hk)
 have hbX : Row4 X b 25 (.int .i64 k1) (.string s1) (.slice a1 n1 q1) (.slice A1 m1 r1) := kept_box hk HBX.out hC (by decide)
 obtain ⟨x0, x1, x2, x3⟩ := hbX.cells
 have hn0X : n0 ≤ X.heap.size := by have := HS1.out.lt.1; omega
 have HNX := hid (NdC.keep (T := (· < n0)) (w' := X) (fun b h => ⟨h, (HS1.out.2.1.below hn0).block b h⟩) _ HND.out)
 clear hj hk hbX hR hy c1' c2'
 gi_wp2_with fail
 refine ⟨trivial, callsIn_wide.2 ((HI d hcd hfd had HL.out.sp n0 (.int .i64 k1) (.string s1) (.slice a1 n1 q1) (.slice A1 m1 r1) X hn0X HNX.out).mono ?_)⟩
 rintro e W2 ⟨v, rfl, hb2, gf, lb, rfl, eg, hit⟩
 have HS2 := hid (HS1.out.below HJ.out hb2)
 have hsz2 := hb2.size
 have hlt := HS1.out.lt.1
 clear x0 x1 x2 x3 hb2
 gi_wp2
 refine wpIn_lines (n0 := n0) (C := X.heap.size) (xs := lnT d) rfl eg rfl hit (Nat.le_trans hn0X hsz2) hsz2
  (fun pre X => SQ11 n0 C W J (.func (.yield l) #[] #[]) [] (H.data.toList :: spL pre) X)
  (fun s X X' h hT => h.turned HJ.out hT (by omega) (fun D hD => by cases hD)) HS2.out ?a1 ?assign ?body ?done
 case assign =>
  intro l x V K hK
  gi_wp2
  exact hK
 case body =>
  rintro l2 pre x X2 hpre hSQ
  have hp2 : (H.data.toList :: spL pre) ++ [[32, 32] ++ x] = H.data.toList :: spL (pre ++ [x]) := by rw [spL_snoc]; rfl
  have hp1 : (H.data.toList :: spL pre) ++ [[32, 32] ++ x] <+: H.data.toList :: spL (lnT d) := by
   rw [hp2]
   obtain ⟨r, hr⟩ := spL_pre hpre
   exact ⟨r, by rw [← hr]; rfl⟩
  obtain ⟨q, hq⟩ : ∃ q : ByteArray, q.data.toList = x := ⟨ba x, ba_data x⟩
  obtain ⟨fn, tmps, assign, body, hy, hR⟩ := HY.out _ _ X2 hp1 hSQ.1
  rw [hp2] at hR
  rw [enc_q (q := ⟨#[32, 32]⟩ ++ q) (by rw [app_list, hq])] at hy
  have e1 := enc_q hq
  have c1 := cell_box hSQ.2.2.1
  have HSQ := hid hSQ
  have hcat : (⟨#[32, 32]⟩ : ByteArray).size + q.size ≤ 1000000000 := by
   have := HL.out.pre hp1 _ (List.mem_append_right _ (List.mem_singleton.2 rfl))
   rw [List.length_append, ← hq, len_eq] at this
   exact this
  clear hp1 hp2 hpre hSQ hq
  simp only [e1]
  gi_wp2
  refine (roundIn_any hR).mono ?_
  rintro e X3 ⟨rfl, hj3, hk3⟩
  have HS4 := hid (HSQ.out.kept hj3 hk3)
  have HK3 := hid (hk3.mono (Nat.le_refl _) (by omega) (Nat.le_of_lt hlt) (C' := X.heap.size) (B' := X.heap.size))
  clear hj3 hk3 hR hy c1
  gi_wp2
  exact ⟨HS4.out, HK3.out⟩
 case done =>
  rintro D X3 hD hSQ hm
  have HSQ := hid (hSQ.mark (B' := X.heap.size) hlt (fun D h => by cases h) (by omega) hm)
  clear hSQ hm hD
  dsimp only
  gi_wp2
  refine leaves_marks [D] X3 HSQ.out.2.2.2.1 (fun D hD => (HSQ.out.2.2.2.2 D hD).2) ⟨_, results_none rfl _ _ _, ⟨_, rfl⟩, ?_⟩
  exact HSQ.out.shut HJ.out
def EK (n0 : Nat) (w : World) (H : ByteArray) (d : Nd) (c0 c1 c2 c3 : Value) (W : World) : Prop :=
 Below w.heap.size w W ∧ W.heap[w.heap.size]? = some (.cells #[.string H] 9 (0, 0)) ∧ Row4 W (w.heap.size + 1) 25 c0 c1 c2 c3 ∧ NdC (· < n0) W d c0 c1 c2 c3
theorem EK.go {n0 : Nat} {w : World} {H : ByteArray} {d : Nd} {c0 c1 c2 c3 : Value} {W W' : World} (h : EK n0 w H d c0 c1 c2 c3 W) (hn : n0 ≤ w.heap.size) (hb : Below W.heap.size W W') : EK n0 w H d c0 c1 c2 c3 W' :=
 ⟨h.1.trans (hb.mono h.1.size), below_heap hb h.2.1, below_heap hb h.2.2.1, NdC.keep (fun b hlt => ⟨hlt, hb.block b (by have := h.1.size; omega)⟩) _ h.2.2.2⟩
theorem EK.start {n0 : Nat} {w : World} (H : ByteArray) {d : Nd} {c0 c1 c2 c3 : Value} (hn : n0 ≤ w.heap.size) (hd : NdC (· < n0) w d c0 c1 c2 c3) : EK n0 w H d c0 c1 c2 c3 ((w.alloc (.cells #[.string H] 9)).alloc (.cells #[c0, c1, c2, c3] 25)) :=
 ⟨(below_alloc w _).alloc (by simp) _, (Below.heap_alloc _ _ _ (by simp)).trans (World.alloc_heap_new w _), by
  have := World.alloc_heap_new (w.alloc (.cells #[.string H] 9)) (.cells #[c0, c1, c2, c3] 25)
  rwa [World.size_alloc] at this,
  NdC.keep (fun b hlt => ⟨hlt, ((below_alloc w _).alloc (by simp) _).block b (by omega)⟩) _ hd⟩
theorem EK.nd {n0 : Nat} {w : World} {H : ByteArray} {d : Nd} {c0 c1 c2 c3 : Value} {W : World} (h : EK n0 w H d c0 c1 c2 c3 W) (hn : n0 ≤ w.heap.size) : NdW W d c0 c1 c2 c3 :=
 NdC.keep (fun b hlt => ⟨by have := h.1.size; omega, rfl⟩) _ h.2.2.2
theorem entryLines_any (N : Nat) (HI : InnerOf N) (n0 : Nat) (d : Nd) (hcd : cntT d ≤ N) (hfd : N8.Fine d) (had : allT 1000000 d) (H : ByteArray) (hlim : Lim (entL H.data.toList d)) (c0 c1 c2 c3 : Value) (w : World) (hn : n0 ≤ w.heap.size) (hd : NdC (· < n0) w d c0 c1 c2 c3) :
  Calls Tryz.prog 83 #[.string H, .agg #[c0, c1, c2, c3]] w fun e w' => ∃ v, e = .returned v ∧ Below w.heap.size w w' ∧ Seqs Tryz.prog T8 n0 w.heap.size v (entL H.data.toList d) w' := by
 obtain ⟨k1, s1, a1, n1, q1, A1, m1, r1, rfl, rfl, rfl, rfl⟩ := hd.cellsOk
 have HK := hid (EK.start H hn hd)
 have HS := hid (fun b hb W hW => isShort_any d hfd b hb (.int .i64 k1) (.string s1) (.slice a1 n1 q1) (.slice A1 m1 r1) W hW)
 obtain ⟨sh, hsh⟩ : ∃ sh, shrt d = sh := ⟨_, rfl⟩
 have HS1 := hid (fun W hW => HS.out sh hsh W hW)
 obtain ⟨x0, x1, x2, x3⟩ := HK.out.2.2.1.cells
 have h00 := cell_box HK.out.2.1
 unfold entL at hlim ⊢
 clear hd HS
 cases sh with
 | false =>
  rw [if_neg (by rw [hsh]; decide)] at hlim ⊢
  have HIT := hid (fun W hbh hb hnd => ent_iter N HI n0 w.heap.size w.heap.size (w.heap.size + 1) d hcd hfd had H hlim (.int .i64 k1) (.string s1) (.slice a1 n1 q1) (.slice A1 m1 r1) W (Nat.le_refl _) (Nat.le_succ _) hn hbh hb hnd)
  clear hlim hcd hfd had hsh
  go_enter Tryz.func83, Tryz.ntmps83
  go_wp2_with fail
  generalize (w.alloc (.cells #[.string H] 9)).alloc (.cells #[.int .i64 k1, .string s1, .slice a1 n1 q1, .slice A1 m1 r1] 25) = W1 at *
  refine (HS1.out _ (HK.out.nd hn)).mono ?_
  rintro e W2 ⟨rfl, hb2⟩
  have HK2 := hid (HK.out.go hn hb2)
  clear x0 x1 x2 x3 h00 hb2
  go_wp2
  go_ret
  exact ⟨_, rfl, HK2.out.1, _, _, rfl, enters_of Tryz.func115 (by kernel_rfl) rfl, HIT.out W2 HK2.out.2.1 HK2.out.2.2.1 HK2.out.2.2.2⟩
 | true =>
  rw [if_pos hsh] at hlim ⊢
  obtain ⟨Z, hZ⟩ : ∃ Z, ba (scal d) = Z := ⟨_, rfl⟩
  have hZl : Z.data.toList = scal d := by rw [← hZ, ba_data]
  have HZ := hid (fun W hW => shortForm_any d hfd (text_all had) Z hZl.symm (.int .i64 k1) (.string s1) (.slice a1 n1 q1) (.slice A1 m1 r1) W hW)
  have hcat : H.size + 1 + Z.size ≤ 1000000000 := by
   have := hlim _ List.mem_cons_self
   rw [← hZl] at this
   simp only [List.length_append, List.length_cons, List.length_nil, len_eq] at this
   omega
  have HLN : Hid ([H.data.toList ++ [32] ++ scal d] = [(H ++ ⟨#[32]⟩ ++ Z).data.toList]) := hid (by rw [app_list, app_list, hZl])
  clear hlim hcd had hsh hZ hZl hfd
  rw [HLN.out]
  have HO := hid (fun W => oneLine_any n0 (H ++ ⟨#[32]⟩ ++ Z) W)
  have hc1 : (⟨#[32]⟩ : ByteArray).size = 1 := rfl
  have hk1 : (9223372036854775807 < H.size + 1) = False := eq_false (by omega)
  have hk2 : (9223372036854775807 < H.size + 1 + Z.size) = False := eq_false (by omega)
  go_enter Tryz.func83, Tryz.ntmps83
  go_wp2_with fail
  generalize (w.alloc (.cells #[.string H] 9)).alloc (.cells #[.int .i64 k1, .string s1, .slice a1 n1 q1, .slice A1 m1 r1] 25) = W1 at *
  refine (HS1.out _ (HK.out.nd hn)).mono ?_
  rintro e W2 ⟨rfl, hb2⟩
  have HK2 := hid (HK.out.go hn hb2)
  clear x0 x1 x2 x3 h00 hb2
  go_wp2
  have hE : ∀ W, EK n0 w H d (.int .i64 k1) (.string s1) (.slice a1 n1 q1) (.slice A1 m1 r1) W → W.cell? ⟨w.heap.size, 0, none⟩ = some (.string H) ∧ W.cell? ⟨w.heap.size + 1, 0, none⟩ = some (.int .i64 k1) ∧ W.cell? ⟨w.heap.size + 1, 1, none⟩ = some (.string s1) ∧ W.cell? ⟨w.heap.size + 1, 2, none⟩ = some (.slice a1 n1 q1) ∧ W.cell? ⟨w.heap.size + 1, 3, none⟩ = some (.slice A1 m1 r1) ∧ EK n0 w H d (.int .i64 k1) (.string s1) (.slice a1 n1 q1) (.slice A1 m1 r1) W := fun W h => ⟨cell_box h.2.1, h.2.2.1.cells.1, h.2.2.1.cells.2.1, h.2.2.1.cells.2.2.1, h.2.2.1.cells.2.2.2, h⟩
  have HE := hid hE
  clear hE
  have hS1 := HE.out W2.drew (HK2.out.go hn (drewN_q W2 1))
  go_region_held3 (fun W => W.cell? ⟨w.heap.size, 0, none⟩ = some (.string H) ∧ W.cell? ⟨w.heap.size + 1, 0, none⟩ = some (.int .i64 k1) ∧ W.cell? ⟨w.heap.size + 1, 1, none⟩ = some (.string s1) ∧ W.cell? ⟨w.heap.size + 1, 2, none⟩ = some (.slice a1 n1 q1) ∧ W.cell? ⟨w.heap.size + 1, 3, none⟩ = some (.slice A1 m1 r1) ∧ EK n0 w H d (.int .i64 k1) (.string s1) (.slice a1 n1 q1) (.slice A1 m1 r1) W) (first | exact hS1 | exact hS2 | exact hS3)
   (first
    | (go_at_call 57; refine (HZ.out _ (hS1.2.2.2.2.2.nd hn)).mono ?_; rintro e2 w2 ⟨rfl, hb2⟩; have hS2 := HE.out _ (hS1.2.2.2.2.2.go hn hb2))
    | (go_at_call 37; refine (HO.out _).mono ?_; rintro e3 w3 ⟨v, rfl, hb3, hseq⟩; have hS3 := HE.out _ (hS2.2.2.2.2.2.go hn hb3)))
  all_goals
   have HR := hid (And.intro hS3.2.2.2.2.2.1 (hseq.lower hS2.2.2.2.2.2.1.size))
   clear hS1 hS2 hS3 hseq hb2 hb3
   go_wp2
   go_ret
   exact ⟨_, rfl, HR.out.1, HR.out.2⟩
end
section
open Go.RowKit Go.Sort
open Nw N8 Q6 F9 B10 E11
attribute [local go_sem] Oper.semAt_some
theorem Lim.mid {a b c : List L8} (h : Lim c) (hp : a ++ b <+: c) : Lim b := (h.pre hp).right
def MK (n0 C : Nat) (W : World) (J : List L8 → World → Prop) (Y : Value) (Ds : List Nat) (pre : List L8) (V0 : World) (b bk kb kc : Nat) (c0 c1 c2 c3 e0 e1 e2 e3 : Value) (K : ByteArray) (d : Nd) (V : World) : Prop :=
 V0.heap.size ≤ V.heap.size ∧ SQ11 n0 C W J Y Ds pre V ∧ Row4 V b 25 c0 c1 c2 c3 ∧ Row4 V bk 25 e0 e1 e2 e3 ∧ (kb < n0 ∧ V.cell? ⟨kb, kc, none⟩ = some (.string K)) ∧ NdC (· < n0) V d e0 e1 e2 e3
theorem MK.go {n0 C : Nat} {W : World} {J : List L8 → World → Prop} {Y : Value} {Ds : List Nat} {pre : List L8} {V0 : World} {b bk kb kc : Nat} {c0 c1 c2 c3 e0 e1 e2 e3 : Value} {K : ByteArray} {d : Nd} {V V' : World}
  (h : MK n0 C W J Y Ds pre V0 b bk kb kc c0 c1 c2 c3 e0 e1 e2 e3 K d V) (hJ : ∀ s V V', J s V → Turned T8 W.heap.size V V' → J s V') (hn : n0 ≤ W.heap.size) (hb : Below V.heap.size V V') : MK n0 C W J Y Ds pre V0 b bk kb kc c0 c1 c2 c3 e0 e1 e2 e3 K d V' := by
 obtain ⟨h0, h1, h2, h3, ⟨h4, h5⟩, h6⟩ := h
 have hlt := h1.lt.1
 exact ⟨Nat.le_trans h0 hb.size, h1.below hJ hb, below_heap hb h2, below_heap hb h3, ⟨h4, (hb.cell (p := ⟨kb, kc, none⟩) (show kb < V.heap.size by omega)).trans h5⟩, NdC.keep (fun q hq => ⟨hq, hb.block q (by omega)⟩) _ h6⟩
theorem map_iter (N : Nat) (HI : InnerOf N) (n0 C b : Nat) (k : Int) (t : L8) (ks : List L8) (ds : List Nd) (hkd : ks.length = ds.length) (hN : ∀ d ∈ ds, cntT d ≤ N) (hf : ∀ d ∈ ds, N8.Fine d) (ha : ∀ d ∈ ds, allT 1000000 d) (hak : ∀ k ∈ ks, k.length ≤ 1000000) (hlen : ds.length ≤ 1000000) (hlim : Lim (lnM ks ds)) (c0 c1 c2 c3 : Value) (w : World) (hC : C ≤ b) (h0C : n0 ≤ C)
  (hb : Row4 w b 25 c0 c1 c2 c3) (hd : NdC (· < n0) w (.mk k t ks ds) c0 c1 c2 c3) :
  IterOk Tryz.prog T8 n0 C 82 #[.pointer (some ⟨b, 0, none⟩)] (lnM ks ds) w := by
 intro l J W hW hJ hY h0
 have hn0w : n0 ≤ w.heap.size := by have := lt_of_heap hb; omega
 have hbW : Row4 W b 25 c0 c1 c2 c3 := kept_box hW hb hC (by decide)
 have hn0 : n0 ≤ W.heap.size := Nat.le_trans hn0w hW.size
 have hdW : NdC (· < n0) W (.mk k t ks ds) c0 c1 c2 c3 := NdC.keep (fun b h => ⟨h, (hW.below hn0w).block b h⟩) _ hd
 have hCW : C ≤ W.heap.size := by have := lt_of_heap hbW; omega
 clear hW hd hb
 have hc := hdW
 rw [NdC] at hc
 obtain ⟨rfl, rfl, ⟨a2, p2, rfl, hp2, hp2m, hk3⟩, A, cap, rfl, hcap, hcm, hA0, -⟩ := hc
 obtain ⟨n, hn⟩ : ∃ n, ds.length = n := ⟨_, rfl⟩
 have hkn : ks.length = n := by rw [hkd, hn]
 have HN := hid hn
 have HKN := hid hkn
 have HND := hid hdW
 have HY := hid hY
 have HJ := hid hJ
 have H0 := hid h0
 have HF := hid hf
 have HA := hid ha
 have HAK := hid hak
 have HM := hid hN
 have HB := hid hbW
 have HL := hid hlim
 have HK3 := hid hk3
 obtain ⟨x0, x1, x2, x3⟩ := (hbW.alloc (.cells #[.func (.yield l) #[] #[]] 53)).cells
 rw [hn] at x3 hcap hlen HB
 rw [hkn] at x2 hp2 HB
 clear hdW hY hJ h0 hf ha hak hN hbW hn hlim hkd hkn hk3
 refine callsIn_of_wp_marks Tryz.func82 rfl trivial ?_ rfl
 simp only [Tryz.ntmps82, List.size_toArray, List.length_cons, List.length_nil, Nat.reduceAdd, Nat.reduceSub, Array.replicate_succ, Array.replicate_zero, List.push_toArray, List.append_toArray, List.nil_append, List.cons_append]
 gi_wp2
 have HS0 : Hid (SQ11 n0 C W J (.func (.yield l) #[] #[]) [] (lnM (ks.take 0) (ds.take 0)) (W.alloc (.cells #[.func (.yield l) #[] #[]] 53))) := hid
  ⟨HJ.out _ _ _ (by rw [List.take_zero, List.take_zero, show lnM [] [] = [] by rw [lnM]; intros; contradiction]; exact H0.out) (.alloc _ _ _ _), .alloc _ _ _ _ _ _, World.alloc_heap_new W _, List.nodup_nil, fun D h => by cases h⟩
 clear x0 x1 x2 x3 H0
 generalize W.alloc (.cells #[.func (.yield l) #[] #[]] 53) = W1 at HS0 ⊢
 refine wpIn_loop (fun a V => ∃ (i : Nat) (Ds : List Nat) (u3 u4 u5 u10 u11 u12 u13 u14 u15 u16 u17 u18 u19 u20 u21 u22 u23 u24 u25 u26 u27 u28 : Value), i ≤ n ∧
   a = { tmps := #[.func (.yield l) #[] #[], .pointer (some ⟨b, 0, none⟩), .pointer (some ⟨W.heap.size, 0, none⟩), u3, u4, u5, .pointer (some ⟨b, 3, none⟩), .slice A n cap, .int .i64 (n : Int), .int .i64 (i : Int), u10, u11, u12, u13, u14, u15, u16, u17, u18, u19, u20, u21, u22, u23, u24, u25, u26, u27, u28], defers := Ds.map markOf } ∧
   Hid (SQ11 n0 C W J (.func (.yield l) #[] #[]) Ds (lnM (ks.take i) (ds.take i)) V)) (fun a _ => n - (intOf (a.tmps.getD 9 undef)).toNat) ?start ?round
 case start => exact ⟨0, [], _, _, _, _, _, _, _, _, _, _, _, _, _, _, _, _, _, _, _, _, _, _, Nat.zero_le _, rfl, HS0⟩
 case round =>
  clear HS0
  rintro a V ⟨i, Ds, u3, u4, u5, u10, u11, u12, u13, u14, u15, u16, u17, u18, u19, u20, u21, u22, u23, u24, u25, u26, u27, u28, hi, rfl, HS⟩
  by_cases hlt : i < n
  ·have hil : i < ds.length := by rw [HN.out]; exact hlt
   have hik : i < ks.length := by rw [HKN.out]; exact hlt
   have hiz : (i : Int) < (n : Int) := by omega
   have HV0 := hid (HS.out.2.1.below hn0)
   obtain ⟨g, o, E0, E1, E2, E3, rfl, hg, y0, y1, y2, y3, hnd⟩ := HND.out.kid i hil
   obtain ⟨k1, s1, a1, n1, q1, A1, m1, r1, rfl, rfl, rfl, rfl⟩ := hnd.cellsOk
   obtain ⟨kb, ko, rfl, hkb, hkc⟩ : ∃ kb ko, a2 = some ⟨kb, ko, none⟩ ∧ kb < n0 ∧ W.cell? ⟨kb, ko + i, none⟩ = some (.string (ba (ks[i]'hik))) := by
    rcases HK3.out with ⟨h, _⟩ | ⟨kb, ko, rfl, h1, h2⟩
    ·rw [h] at hik; cases hik
    ·exact ⟨kb, ko, rfl, h1, h2 i hik⟩
   obtain ⟨d, hdj⟩ : ∃ d, ds[i]'hil = d := ⟨_, rfl⟩
   obtain ⟨kk, hkj⟩ : ∃ kk, ks[i]'hik = kk := ⟨_, rfl⟩
   have hmem : d ∈ ds := by rw [← hdj]; exact List.getElem_mem hil
   have hmemk : kk ∈ ks := by rw [← hkj]; exact List.getElem_mem hik
   obtain ⟨ht1, ht2⟩ := lnM_take ks ds i hik hil
   rw [hdj] at hnd ht1
   rw [hkj] at hkc ht1
   obtain ⟨Q, hQ⟩ : ∃ Q, ba kk = Q := ⟨_, rfl⟩
   have hQl : Q.data.toList = kk := by rw [← hQ, ba_data]
   rw [hQ] at hkc
   obtain ⟨Z, hZ⟩ : ∃ Z, ba (keyw kk) = Z := ⟨_, rfl⟩
   have hZl : Z.data.toList = keyw kk := by rw [← hZ, ba_data]
   have hHl : (Z ++ ⟨#[58]⟩).data.toList = keyw kk ++ [58] := by rw [app_list, hZl]
   have hlime : Lim (entL (Z ++ ⟨#[58]⟩).data.toList d) := by rw [hHl]; exact HL.out.mid (by rw [← ht1]; exact ht2)
   have HT1 : Hid (lnM (ks.take (i + 1)) (ds.take (i + 1)) = lnM (ks.take i) (ds.take i) ++ entL (Z ++ ⟨#[58]⟩).data.toList d) := hid (by rw [hHl]; exact ht1)
   have HT2 := hid ht2
   have hzs : Z.size + 1 ≤ 1000000000 := by
    unfold entL at hlime
    by_cases hsh : shrt d = true
    ·rw [if_pos hsh] at hlime
     have := hlime _ List.mem_cons_self
     simp only [List.length_append, List.length_cons, List.length_nil, len_eq, ByteArray.size_append] at this
     have e1 : (⟨#[58]⟩ : ByteArray).size = 1 := rfl
     omega
    ·rw [if_neg hsh] at hlime
     have := hlime _ List.mem_cons_self
     rw [len_eq, ByteArray.size_append] at this
     exact this
   have hkq : (9223372036854775807 < Z.size + 1) = False := eq_false (by omega)
   have hc1 : (⟨#[58]⟩ : ByteArray).size = 1 := rfl
   have HKF := hid (fun W2 => keyForm_any Q W2 (by rw [← len_eq, hQl]; exact HAK.out kk hmemk) Z (by rw [hQl, hZl]))
   have HEL := hid (fun W2 (h1 : n0 ≤ W2.heap.size) h2 => entryLines_any N HI n0 d (HM.out d hmem) (HF.out d hmem) (HA.out d hmem) (Z ++ ⟨#[58]⟩) hlime (.int .i64 k1) (.string s1) (.slice a1 n1 q1) (.slice A1 m1 r1) W2 h1 h2)
   replace y0 := (HV0.out.cell (p := ⟨g, o + i * 4, none⟩) hg).trans y0
   replace y1 := (HV0.out.cell (p := ⟨g, o + i * 4 + 1, none⟩) hg).trans y1
   replace y2 := (HV0.out.cell (p := ⟨g, o + i * 4 + 2, none⟩) hg).trans y2
   replace y3 := (HV0.out.cell (p := ⟨g, o + i * 4 + 3, none⟩) hg).trans y3
   have HR0 := Row4.make V 25 (.int .i64 0) (.string ⟨#[]⟩) (.slice none 0 0) (.slice none 0 0)
   obtain ⟨p0, p1, p2', p3⟩ := HR0.cells
   obtain ⟨g0, g1, g2, g3⟩ := HR0.frozen
   clear HR0
   have hlt0 := HS.out.lt
   have HMK0 : Hid (MK n0 C W J (.func (.yield l) #[] #[]) Ds (lnM (ks.take i) (ds.take i)) V b V.heap.size kb (ko + i) (.int .i64 k) (.string (ba t)) (.slice (some ⟨kb, ko, none⟩) n p2) (.slice (some ⟨g, o, none⟩) n cap) (.int .i64 k1) (.string s1) (.slice a1 n1 q1) (.slice A1 m1 r1) Q d
     (V.alloc (.cells #[.int .i64 k1, .string s1, .slice a1 n1 q1, .slice A1 m1 r1] 25))) := hid
    ⟨by simp, HS.out.below HJ.out (below_alloc V _), below_heap (below_alloc V _) (kept_box HS.out.2.1 HB.out hC (by decide)), Row4.make V _ _ _ _ _, ⟨hkb, (((below_alloc V _).cell (p := ⟨kb, ko + i, none⟩) (show kb < V.heap.size by omega)).trans (HV0.out.cell (p := ⟨kb, ko + i, none⟩) hkb)).trans hkc⟩,
     NdC.keep (fun q hq => ⟨hq, ((below_alloc V _).block q (by omega)).trans (HV0.out.block q hq)⟩) _ hnd⟩
   have HLT := hid hlt0
   have HMG := hid (fun V1 V2 (h : MK n0 C W J (.func (.yield l) #[] #[]) Ds (lnM (ks.take i) (ds.take i)) V b V.heap.size kb (ko + i) (.int .i64 k) (.string (ba t)) (.slice (some ⟨kb, ko, none⟩) n p2) (.slice (some ⟨g, o, none⟩) n cap) (.int .i64 k1) (.string s1) (.slice a1 n1 q1) (.slice A1 m1 r1) Q d V1) hb => h.go HJ.out hn0 (V' := V2) hb)
   obtain ⟨T, hT⟩ : ∃ T, ba t = T := ⟨_, rfl⟩
   rw [hT] at HMK0 HMG
   clear hnd ht1 ht2 hmem hmemk hdj hkj hQ hQl hZ hZl hHl hlime hzs hkc hlt0 HV0 hT
   gi_wp2_with fail
   clear y0 y1 y2 y3 p0 p1 p2' p3 g0 g1 g2 g3
   generalize V.alloc (.cells #[.int .i64 k1, .string s1, .slice a1 n1 q1, .slice A1 m1 r1] 25) = V1 at HMK0 ⊢
   have HE := hid (show ∀ Vx, MK n0 C W J (.func (.yield l) #[] #[]) Ds (lnM (ks.take i) (ds.take i)) V b V.heap.size kb (ko + i) (.int .i64 k) (.string T) (.slice (some ⟨kb, ko, none⟩) n p2) (.slice (some ⟨g, o, none⟩) n cap) (.int .i64 k1) (.string s1) (.slice a1 n1 q1) (.slice A1 m1 r1) Q d Vx → (fun Vx => Vx.cell? ⟨b, 2, none⟩ = some (.slice (some ⟨kb, ko, none⟩) n p2) ∧ Vx.cell? ⟨kb, ko + i, none⟩ = some (.string Q) ∧ Vx.cell? ⟨V.heap.size, 0, none⟩ = some (.int .i64 k1) ∧ Vx.cell? ⟨V.heap.size, 1, none⟩ = some (.string s1) ∧ Vx.cell? ⟨V.heap.size, 2, none⟩ = some (.slice a1 n1 q1) ∧ Vx.cell? ⟨V.heap.size, 3, none⟩ = some (.slice A1 m1 r1) ∧ MK n0 C W J (.func (.yield l) #[] #[]) Ds (lnM (ks.take i) (ds.take i)) V b V.heap.size kb (ko + i) (.int .i64 k) (.string T) (.slice (some ⟨kb, ko, none⟩) n p2) (.slice (some ⟨g, o, none⟩) n cap) (.int .i64 k1) (.string s1) (.slice a1 n1 q1) (.slice A1 m1 r1) Q d Vx) Vx from fun Vx h => ⟨h.2.2.1.cells.2.2.1, h.2.2.2.2.1.2, h.2.2.2.1.cells.1, h.2.2.2.1.cells.2.1, h.2.2.2.1.cells.2.2.1, h.2.2.2.1.cells.2.2.2, h⟩)
   have hS1 := HE.out V1.drew (HMG.out _ _ HMK0.out (drewN_q V1 1))
   have hn0V : ∀ Vx, MK n0 C W J (.func (.yield l) #[] #[]) Ds (lnM (ks.take i) (ds.take i)) V b V.heap.size kb (ko + i) (.int .i64 k) (.string T) (.slice (some ⟨kb, ko, none⟩) n p2) (.slice (some ⟨g, o, none⟩) n cap) (.int .i64 k1) (.string s1) (.slice a1 n1 q1) (.slice A1 m1 r1) Q d Vx → n0 ≤ Vx.heap.size := fun Vx h => by have := h.2.1.lt.1; omega
   have HNV := hid hn0V
   clear hn0V HMK0
   refine wpIn_wide.2 ?_
   go_region_held3 (fun Vx => Vx.cell? ⟨b, 2, none⟩ = some (.slice (some ⟨kb, ko, none⟩) n p2) ∧ Vx.cell? ⟨kb, ko + i, none⟩ = some (.string Q) ∧ Vx.cell? ⟨V.heap.size, 0, none⟩ = some (.int .i64 k1) ∧ Vx.cell? ⟨V.heap.size, 1, none⟩ = some (.string s1) ∧ Vx.cell? ⟨V.heap.size, 2, none⟩ = some (.slice a1 n1 q1) ∧ Vx.cell? ⟨V.heap.size, 3, none⟩ = some (.slice A1 m1 r1) ∧ MK n0 C W J (.func (.yield l) #[] #[]) Ds (lnM (ks.take i) (ds.take i)) V b V.heap.size kb (ko + i) (.int .i64 k) (.string T) (.slice (some ⟨kb, ko, none⟩) n p2) (.slice (some ⟨g, o, none⟩) n cap) (.int .i64 k1) (.string s1) (.slice a1 n1 q1) (.slice A1 m1 r1) Q d Vx) (first | exact hS1 | exact hS2 | exact hS3)
    (first
     | (go_at_call 84; refine (HKF.out _).mono ?_; rintro e2 w2 ⟨rfl, hb2⟩; have hS2 := HE.out _ (HMG.out _ _ hS1.2.2.2.2.2.2 hb2))
     | (go_at_call 83; refine (HEL.out _ (HNV.out _ hS2.2.2.2.2.2.2) hS2.2.2.2.2.2.2.2.2.2.2.2).mono ?_; rintro e3 w3 ⟨v, rfl, hb3, hseq⟩; have hS3 := HE.out _ (HMG.out _ _ hS2.2.2.2.2.2.2 hb3)))
   have HSQ := hid hS3.2.2.2.2.2.2.2.1
   have hsz := hS2.2.2.2.2.2.2.1
   have hsz3 := hb3.size
   have hn02 := HNV.out _ hS2.2.2.2.2.2.2
   obtain ⟨gf, lb, rfl, eg, hit⟩ := hseq
   have hC2 : w2.heap.size ≤ w3.heap.size := hb3.size
   clear hS1 hS2 hS3 hb2 hb3 HE HMG HNV HKF HEL
   have hlW := HLT.out.1
   have hD2 : ∀ D ∈ Ds, D < w2.heap.size := fun D h => by have := HLT.out.2 D h; omega
   go_wp2
   gi_wp2
   refine wpIn_lines (n0 := n0) (C := w2.heap.size) (xs := entL (Z ++ ⟨#[58]⟩).data.toList d) rfl eg rfl hit (Nat.le_trans hn02 hC2) hC2
    (fun pre X => SQ11 n0 C W J (.func (.yield l) #[] #[]) Ds (lnM (ks.take i) (ds.take i) ++ pre) X)
    (fun s X X' h hT => h.turned HJ.out hT (by omega) (fun D hD => by have := hD2 D hD; omega))
    (by rw [List.append_nil]; exact HSQ.out) ?a1 ?assign ?body ?done
   case assign =>
    intro l x V K hK
    gi_wp2
    exact hK
   case body =>
    rintro l2 pre x X2 hpre hSQ
    have hp2 : (lnM (ks.take i) (ds.take i) ++ pre) ++ [x] = lnM (ks.take i) (ds.take i) ++ (pre ++ [x]) := List.append_assoc _ _ _
    have hp1 : (lnM (ks.take i) (ds.take i) ++ pre) ++ [x] <+: lnM ks ds := by
     rw [hp2]
     refine List.IsPrefix.trans ?_ HT2.out
     rw [HT1.out]
     exact (List.prefix_append_right_inj _).2 hpre
    obtain ⟨q, hq⟩ : ∃ q : ByteArray, q.data.toList = x := ⟨ba x, ba_data x⟩
    obtain ⟨fn, tmps, assign, body, hy, hR⟩ := HY.out _ _ X2 hp1 hSQ.1
    rw [hp2] at hR
    rw [enc_q hq] at hy
    have e1 := enc_q hq
    have c1 := cell_box hSQ.2.2.1
    have HSQ2 := hid hSQ
    clear hp1 hp2 hpre hSQ hq
    simp only [e1]
    gi_wp2
    refine (roundIn_any hR).mono ?_
    rintro e X3 ⟨rfl, hj3, hk3⟩
    have HS4 := hid (HSQ2.out.kept hj3 hk3)
    have HK3 := hid (hk3.mono (Nat.le_refl _) (by omega) (by omega) (C' := w2.heap.size) (B' := w2.heap.size))
    clear hj3 hk3 hR hy c1
    gi_wp2
    exact ⟨HS4.out, HK3.out⟩
   case done =>
    rintro D X3 hD hSQ hm
    have HSQ3 := hid (hSQ.mark (B' := w2.heap.size) (by omega) hD2 (by omega) hm)
    clear hSQ hm hD
    dsimp only
    gi_wp2
    refine ⟨⟨i + 1, D :: Ds, _, _, _, _, _, _, _, _, _, _, _, _, _, _, _, _, _, _, _, _, _, _, by omega, rfl, hid (by rw [HT1.out]; exact HSQ3.out)⟩, ?_⟩
    simp [intOf]
    omega
  ·obtain rfl : i = n := by omega
   gi_wp2
   refine leaves_marks Ds V HS.out.2.2.2.1 (fun D hD => (HS.out.2.2.2.2 D hD).2) ⟨_, results_none rfl _ _ _, ⟨_, rfl⟩, ?_⟩
   have := HS.out.shut HJ.out
   rwa [List.take_of_length_le (by rw [HKN.out]; exact Nat.le_refl _), List.take_of_length_le (by rw [HN.out]; exact Nat.le_refl _)] at this
end
end Go.Proofs.YtmdgpejedbkkdaaGreatDoor
