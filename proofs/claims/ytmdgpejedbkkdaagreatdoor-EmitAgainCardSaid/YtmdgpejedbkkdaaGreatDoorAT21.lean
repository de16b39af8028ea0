/- EmiSeq, EmiEnt -/
import Derived.Deep.CutRange
import Derived.Deep.RegionHeld3
import Derived.Test.YtmdgpejedbkkdaaGreatDoorAT16
import Derived.Test.YtmdgpejedbkkdaaGreatDoorAT17
import Derived.Test.YtmdgpejedbkkdaaGreatDoorAT20
set_option linter.unusedVariables false
set_option linter.unusedSimpArgs false
set_option maxRecDepth 100000
set_option maxHeartbeats 16000000
open Go.Lib (hid)
namespace Go.Proofs.YtmdgpejedbkkdaaGreatDoor
section
open Go.RowKit Go.Sort
open Nw N8 Q6 F9 B10 E11
attribute [local go_sem] Oper.semAt_some
def Lim (l : List L8) : Prop := ∀ x ∈ l, x.length ≤ 1000000000
theorem Lim.dsh {l : List L8} (h : Lim (E11.dsh l)) : Lim l := by
 cases l with
 | nil => exact h
 | cons y r =>
  intro x hx
  rcases List.mem_cons.1 hx with rfl | hx
  ·have := h ([45, 32] ++ x) List.mem_cons_self
   simp only [List.length_append, List.length_cons, List.length_nil] at this
   omega
  ·have := h ([32, 32] ++ x) (List.mem_cons_of_mem _ (List.mem_map.2 ⟨x, hx, rfl⟩))
   simp only [List.length_append, List.length_cons, List.length_nil] at this
   omega
theorem Lim.pre {l m : List L8} (h : Lim m) (hp : l <+: m) : Lim l := fun x hx => h x (hp.subset hx)
theorem Lim.right {a b : List L8} (h : Lim (a ++ b)) : Lim b := fun x hx => h x (List.mem_append_right _ hx)
def InnerOf (N : Nat) : Prop := ∀ (d : Nd), cntT d ≤ N → N8.Fine d → allT 1000000 d → Lim (lnT d) → ∀ (n0 : Nat) (c0 c1 c2 c3 : Value) (w : World), n0 ≤ w.heap.size → NdC (· < n0) w d c0 c1 c2 c3 →
  Calls Tryz.prog 38 #[.agg #[c0, c1, c2, c3]] w fun e w' => ∃ v, e = .returned v ∧ Below w.heap.size w w' ∧ Seqs Tryz.prog T8 n0 w.heap.size v (lnT d) w'
theorem Kept.turned {t : TypeId} {n0 C B B' : Nat} {W V V' : World} (h : Kept t n0 C B W V) (hT : Turned t B' V V') (hB : W.heap.size ≤ B') : Kept t n0 C B W V' :=
 ⟨hT.os.trans h.os, hT.tape.trans h.tape, hT.output.trans h.output, Nat.le_trans h.size hT.size, fun k o hk h2 => hT.same k o (h.same k o hk h2) (.inl (Nat.lt_of_lt_of_le (lt_of_heap hk) hB))⟩
theorem below_heap {W W' : World} (h : Below W.heap.size W W') {k : Nat} {o : Obj} (ho : W.heap[k]? = some o) : W'.heap[k]? = some o := below_same h (lt_of_heap ho) ho
def SQ11 (n0 C : Nat) (W : World) (J : List L8 → World → Prop) (Y : Value) (Ds : List Nat) (pre : List L8) (V : World) : Prop :=
 J pre V ∧ Kept T8 n0 C W.heap.size W V ∧ V.heap[W.heap.size]? = some (.cells #[Y] 53 (0, 0)) ∧ Ds.Nodup ∧ ∀ D ∈ Ds, W.heap.size < D ∧ V.heap[D]? = some (.deferred (some []))
theorem SQ11.turned {n0 C B' : Nat} {W : World} {J : List L8 → World → Prop} {Y : Value} {Ds : List Nat} {pre : List L8} {V V' : World} (h : SQ11 n0 C W J Y Ds pre V) (hJ : ∀ s V V', J s V → Turned T8 W.heap.size V V' → J s V')
  (hT : Turned T8 B' V V') (hB : W.heap.size < B') (hD : ∀ D ∈ Ds, D < B') : SQ11 n0 C W J Y Ds pre V' :=
 ⟨hJ _ _ _ h.1 (hT.mono (Nat.le_of_lt hB)), h.2.1.turned hT (Nat.le_of_lt hB), hT.same _ _ h.2.2.1 (.inl hB), h.2.2.2.1, fun D hd => ⟨(h.2.2.2.2 D hd).1, hT.same _ _ (h.2.2.2.2 D hd).2 (.inl (hD D hd))⟩⟩
theorem SQ11.kept {n0 C : Nat} {W : World} {J : List L8 → World → Prop} {Y : Value} {Ds : List Nat} {pre pre' : List L8} {V V' : World} (h : SQ11 n0 C W J Y Ds pre V) (hj : J pre' V') (hk : Kept T8 n0 C W.heap.size V V') : SQ11 n0 C W J Y Ds pre' V' :=
 ⟨hj, h.2.1.trans hk, hk.same _ _ h.2.2.1 (.inr (.inr ⟨Nat.le_refl _, rfl⟩)), h.2.2.2.1, fun D hd => ⟨(h.2.2.2.2 D hd).1, hk.same _ _ (h.2.2.2.2 D hd).2 (.inr (.inr ⟨Nat.le_of_lt (h.2.2.2.2 D hd).1, rfl⟩))⟩⟩
theorem SQ11.lt {n0 C : Nat} {W : World} {J : List L8 → World → Prop} {Y : Value} {Ds : List Nat} {pre : List L8} {V : World} (h : SQ11 n0 C W J Y Ds pre V) : W.heap.size < V.heap.size ∧ ∀ D ∈ Ds, D < V.heap.size :=
 ⟨lt_of_heap h.2.2.1, fun D hd => lt_of_heap (h.2.2.2.2 D hd).2⟩
theorem SQ11.below {n0 C : Nat} {W : World} {J : List L8 → World → Prop} {Y : Value} {Ds : List Nat} {pre : List L8} {V V' : World} (h : SQ11 n0 C W J Y Ds pre V) (hJ : ∀ s V V', J s V → Turned T8 W.heap.size V V' → J s V') (hb : Below V.heap.size V V') : SQ11 n0 C W J Y Ds pre V' :=
 h.turned hJ (B' := V.heap.size) (.of_below hb) h.lt.1 h.lt.2
theorem SQ11.mark {n0 C : Nat} {W : World} {J : List L8 → World → Prop} {Y : Value} {Ds : List Nat} {pre : List L8} {V : World} {D B' : Nat} (h : SQ11 n0 C W J Y Ds pre V) (hB : W.heap.size < B') (hD : ∀ E ∈ Ds, E < B') (hD2 : B' ≤ D) (hm : V.heap[D]? = some (.deferred (some []))) : SQ11 n0 C W J Y (D :: Ds) pre V :=
 ⟨h.1, h.2.1, h.2.2.1, List.nodup_cons.2 ⟨fun e => by have := hD D e; omega, h.2.2.2.1⟩, fun E hE => by
  rcases List.mem_cons.1 hE with rfl | hE
  ·exact ⟨by omega, hm⟩
  ·exact h.2.2.2.2 E hE⟩
theorem SQ11.shut {n0 C : Nat} {W : World} {J : List L8 → World → Prop} {Y : Value} {Ds : List Nat} {pre : List L8} {V : World} (h : SQ11 n0 C W J Y Ds pre V) (hJ : ∀ s V V', J s V → Turned T8 W.heap.size V V' → J s V') : J pre (shut Ds V) :=
 hJ _ _ _ h.1 (shut_facts Ds V fun D hD => ⟨Nat.le_of_lt (h.2.2.2.2 D hD).1, _, (h.2.2.2.2 D hD).2, rfl⟩)
theorem seq_pre {done all : List L8} {ls pre : List L8} {x : L8} (h : pre ++ [x] <+: ls) (hall : done ++ dsh ls <+: all) : (done ++ dsh pre) ++ [(if pre = [] then [45, 32] else [32, 32]) ++ x] <+: all ∧ (done ++ dsh pre) ++ [(if pre = [] then [45, 32] else [32, 32]) ++ x] = done ++ dsh (pre ++ [x]) := by
 have e : (done ++ dsh pre) ++ [(if pre = [] then [45, 32] else [32, 32]) ++ x] = done ++ dsh (pre ++ [x]) := by rw [dsh_snoc, List.append_assoc]
 rw [e]
 exact ⟨((List.prefix_append_right_inj _).2 (dsh_pre h)).trans hall, rfl⟩
def headS (pre : List L8) : ByteArray := if pre = [] then ⟨#[45, 32]⟩ else ⟨#[32, 32]⟩
theorem headS_list (pre : List L8) : (headS pre).data.toList = if pre = [] then [45, 32] else [32, 32] := by unfold headS; split <;> rfl
theorem headS_more (pre : List L8) (x : L8) : headS (pre ++ [x]) = ⟨#[32, 32]⟩ := by unfold headS; rw [if_neg (by simp)]
theorem seq_iter (N : Nat) (HI : InnerOf N) (n0 C b : Nat) (k : Int) (t : L8) (ks : List L8) (ds : List Nd) (hN : ∀ d ∈ ds, cntT d ≤ N) (hf : ∀ d ∈ ds, N8.Fine d) (ha : ∀ d ∈ ds, allT 1000000 d) (hlen : ds.length ≤ 1000000) (hlim : Lim (lnS ds)) (c0 c1 c2 c3 : Value) (w : World) (hC : C ≤ b) (h0C : n0 ≤ C)
  (hb : Row4 w b 25 c0 c1 c2 c3) (hd : NdC (· < n0) w (.mk k t ks ds) c0 c1 c2 c3) :
  IterOk Tryz.prog T8 n0 C 81 #[.pointer (some ⟨b, 0, none⟩)] (lnS ds) w := by
 intro l J W hW hJ hY h0
 have hn0w : n0 ≤ w.heap.size := by have := lt_of_heap hb; omega
 have hbW : Row4 W b 25 c0 c1 c2 c3 := kept_box hW hb hC (by decide)
 have hn0 : n0 ≤ W.heap.size := Nat.le_trans hn0w hW.size
 have hdW : NdC (· < n0) W (.mk k t ks ds) c0 c1 c2 c3 := NdC.keep (fun b h => ⟨h, (hW.below hn0w).block b h⟩) _ hd
 have hCW : C ≤ W.heap.size := by have := lt_of_heap hbW; omega
 clear hW hd hb
 have hc := hdW
 rw [NdC] at hc
 obtain ⟨rfl, rfl, ⟨a2, p2, rfl, -⟩, A, cap, rfl, hcap, hcm, hA0, -⟩ := hc
 obtain ⟨n, hn⟩ : ∃ n, ds.length = n := ⟨_, rfl⟩
 have HN := hid hn
 have HND := hid hdW
 have HY := hid hY
 have HJ := hid hJ
 have H0 := hid h0
 have HF := hid hf
 have HA := hid ha
 have HM := hid hN
 have HB := hid hbW
 have HL := hid hlim
 obtain ⟨x0, x1, x2, x3⟩ := (hbW.alloc (.cells #[.func (.yield l) #[] #[]] 53)).cells
 rw [hn] at x3 hcap hlen
 clear hdW hY hJ h0 hf ha hN hbW hn hlim
 refine callsIn_of_wp_marks Tryz.func81 rfl trivial ?_ rfl
 simp only [Tryz.ntmps81, List.size_toArray, List.length_cons, List.length_nil, Nat.reduceAdd, Nat.reduceSub, Array.replicate_succ, Array.replicate_zero, List.push_toArray, List.append_toArray, List.nil_append, List.cons_append]
 gi_wp2
 have HS0 : Hid (SQ11 n0 C W J (.func (.yield l) #[] #[]) [] (lnS (ds.take 0)) (W.alloc (.cells #[.func (.yield l) #[] #[]] 53))) := hid
  ⟨HJ.out _ _ _ (by rw [List.take_zero, lnS]; exact H0.out) (.alloc _ _ _ _), .alloc _ _ _ _ _ _, World.alloc_heap_new W _, List.nodup_nil, fun D h => by cases h⟩
 clear x0 x1 x2 x3 H0
 generalize W.alloc (.cells #[.func (.yield l) #[] #[]] 53) = W1 at HS0 ⊢
 refine wpIn_loop (fun a V => ∃ (i : Nat) (Ds : List Nat) (u3 u4 u5 u6 u11 u12 u13 u14 u15 u16 u17 u18 u19 u20 u21 u22 u23 : Value), i ≤ n ∧
   a = { tmps := #[.func (.yield l) #[] #[], .pointer (some ⟨b, 0, none⟩), .pointer (some ⟨W.heap.size, 0, none⟩), u3, u4, u5, u6, .pointer (some ⟨b, 3, none⟩), .slice A n cap, .int .i64 (n : Int), .int .i64 (i : Int), u11, u12, u13, u14, u15, u16, u17, u18, u19, u20, u21, u22, u23], defers := Ds.map markOf } ∧
   Hid (SQ11 n0 C W J (.func (.yield l) #[] #[]) Ds (lnS (ds.take i)) V)) (fun a _ => n - (intOf (a.tmps.getD 10 undef)).toNat) ?start ?round
 case start => exact ⟨0, [], _, _, _, _, _, _, _, _, _, _, _, _, _, _, _, _, _, Nat.zero_le _, rfl, HS0⟩
 case round =>
  clear HS0
  rintro a V ⟨i, Ds, u3, u4, u5, u6, u11, u12, u13, u14, u15, u16, u17, u18, u19, u20, u21, u22, u23, hi, rfl, HS⟩
  by_cases hlt : i < n
  ·have hil : i < ds.length := by rw [HN.out]; exact hlt
   have hiz : (i : Int) < (n : Int) := by omega
   have HV0 := hid (HS.out.2.1.below hn0)
   obtain ⟨g, o, E0, E1, E2, E3, rfl, hg, y0, y1, y2, y3, hnd⟩ := HND.out.kid i hil
   obtain ⟨k1, s1, a1, n1, q1, A1, m1, r1, rfl, rfl, rfl, rfl⟩ := hnd.cellsOk
   obtain ⟨d, hdj⟩ : ∃ d, ds[i]'hil = d := ⟨_, rfl⟩
   have hmem : d ∈ ds := by rw [← hdj]; exact List.getElem_mem hil
   obtain ⟨ht1, ht2⟩ := lnS_take ds i hil
   rw [hdj] at hnd ht1
   have HT1 := hid ht1
   have HT2 := hid ht2
   have hfd := HF.out d hmem
   have had := HA.out d hmem
   have hcd := HM.out d hmem
   replace y0 := (HV0.out.cell (p := ⟨g, o + i * 4, none⟩) hg).trans y0
   replace y1 := (HV0.out.cell (p := ⟨g, o + i * 4 + 1, none⟩) hg).trans y1
   replace y2 := (HV0.out.cell (p := ⟨g, o + i * 4 + 2, none⟩) hg).trans y2
   replace y3 := (HV0.out.cell (p := ⟨g, o + i * 4 + 3, none⟩) hg).trans y3
   have HR0 := Row4.make V 25 (.int .i64 0) (.string ⟨#[]⟩) (.slice none 0 0) (.slice none 0 0)
   obtain ⟨p0, p1, p2', p3⟩ := HR0.cells
   obtain ⟨g0, g1, g2, g3⟩ := HR0.frozen
   clear HR0
   obtain ⟨z0, z1, z2, z3⟩ := ((Row4.make V 25 (.int .i64 k1) (.string s1) (.slice a1 n1 q1) (.slice A1 m1 r1)).alloc (.cells #[.string ⟨#[45, 32]⟩] 9)).cells
   have HS2 := hid ((HS.out.below HJ.out (below_alloc V (.cells #[.int .i64 k1, .string s1, .slice a1 n1 q1, .slice A1 m1 r1] 25))).below HJ.out (below_alloc _ (.cells #[.string ⟨#[45, 32]⟩] 9)))
   have HBX : Hid (((V.alloc (.cells #[.int .i64 k1, .string s1, .slice a1 n1 q1, .slice A1 m1 r1] 25)).alloc (.cells #[.string ⟨#[45, 32]⟩] 9)).heap[V.heap.size + 1]? = some (.cells #[.string ⟨#[45, 32]⟩] 9 (0, 0))) := hid (by
    have := World.alloc_heap_new (V.alloc (.cells #[.int .i64 k1, .string s1, .slice a1 n1 q1, .slice A1 m1 r1] 25)) (.cells #[.string ⟨#[45, 32]⟩] 9)
    rwa [World.size_alloc] at this)
   have hsz : V.heap.size + 2 = ((V.alloc (.cells #[.int .i64 k1, .string s1, .slice a1 n1 q1, .slice A1 m1 r1] 25)).alloc (.cells #[.string ⟨#[45, 32]⟩] 9)).heap.size := by simp
   have HSZ := hid hsz
   have HLT := hid HS.out.lt
   have HI1 := hid (fun W2 (h1 : n0 ≤ W2.heap.size) h2 => HI d hcd hfd had (Lim.dsh (Lim.right (a := lnS (ds.take i)) (by rw [← HT1.out]; exact HL.out.pre HT2.out))) n0 (.int .i64 k1) (.string s1) (.slice a1 n1 q1) (.slice A1 m1 r1) W2 h1 h2)
   have HND1 := hid hnd
   clear hsz hnd hcd hfd had ht1 ht2 hmem hdj HV0
   gi_wp2_with fail
   clear y0 y1 y2 y3 p0 p1 p2' p3 g0 g1 g2 g3 z0 z1 z2 z3
   generalize (V.alloc (.cells #[.int .i64 k1, .string s1, .slice a1 n1 q1, .slice A1 m1 r1] 25)).alloc (.cells #[.string ⟨#[45, 32]⟩] 9) = V2 at HS2 HBX HSZ ⊢
   have hn02 : n0 ≤ V2.heap.size := by have := HSZ.out; have := HLT.out.1; omega
   have HB02 := hid (HS2.out.2.1.below hn0)
   refine ⟨trivial, callsIn_wide.2 ((HI1.out V2 hn02 (NdC.keep (fun b h => ⟨h, HB02.out.block b h⟩) _ HND1.out)).mono ?_)⟩
   rintro e W2 ⟨v, rfl, hb2, gf, lb, rfl, eg, hit⟩
   have HS3 := hid (HS2.out.below HJ.out hb2)
   have HBX3 := hid (below_heap hb2 HBX.out)
   have hsz2 := hb2.size
   have hB2 : W.heap.size < V.heap.size + 1 := by have := HLT.out.1; omega
   have hD2 : ∀ D ∈ Ds, D < V.heap.size + 1 := fun D h => by have := HLT.out.2 D h; omega
   have hB3 : V.heap.size + 1 < V2.heap.size := by have := HSZ.out; omega
   clear HS2 HBX hb2
   gi_wp2
   refine wpIn_lines (n0 := n0) (C := V2.heap.size) (xs := lnT d) rfl eg rfl hit (Nat.le_trans hn02 hsz2) hsz2
    (fun pre X => SQ11 n0 C W J (.func (.yield l) #[] #[]) Ds (lnS (ds.take i) ++ dsh pre) X ∧ X.heap[V.heap.size + 1]? = some (.cells #[.string (headS pre)] 9 (0, 0)))
    (fun s X X' h hT => ⟨h.1.turned HJ.out hT (by omega) (fun D hD => by have := hD2 D hD; omega), hT.same _ _ h.2 (.inl (by omega))⟩)
    ⟨by rw [show dsh [] = [] from rfl, List.append_nil]; exact HS3.out, HBX3.out⟩ ?a1 ?assign ?body ?done
   case assign =>
    intro l x V K hK
    gi_wp2
    exact hK
   case body =>
    rintro l2 pre x X hpre ⟨hSQ, hbx⟩
    obtain ⟨hp1, hp2⟩ := seq_pre (done := lnS (ds.take i)) (all := lnS ds) hpre (by rw [← HT1.out]; exact HT2.out)
    obtain ⟨q, hq⟩ : ∃ q : ByteArray, q.data.toList = x := ⟨ba x, ba_data x⟩
    obtain ⟨fn, tmps, assign, body, hy, hR⟩ := HY.out _ _ X hp1 hSQ.1
    rw [hp2] at hR
    rw [enc_q (q := headS pre ++ q) (by rw [app_list, headS_list, hq])] at hy
    have e1 := enc_q hq
    have c1 := cell_box hSQ.2.2.1
    have c2 := cell_box hbx
    have HSQ := hid hSQ
    have HBX := hid hbx
    have hcat : (headS pre).size + q.size ≤ 1000000000 := by
     have := HL.out.pre hp1 _ (List.mem_append_right _ (List.mem_singleton.2 rfl))
     rw [List.length_append, ← headS_list, len_eq, ← hq, len_eq] at this
     exact this
    have HMO := hid (headS_more pre x)
    clear hp1 hp2 hpre hSQ hbx hq
    generalize headS pre = H at hy c2 HBX hcat
    simp only [e1]
    gi_wp2
    refine (roundIn_any hR).mono ?_
    rintro e X3 ⟨rfl, hj3, hk3⟩
    have HS4 := hid (HSQ.out.kept hj3 hk3)
    have hbx4 := hk3.same _ _ HBX.out (.inr (.inr ⟨Nat.le_of_lt hB2, rfl⟩))
    have HBX4 := hid hbx4
    have c3 := cell_box hbx4
    have f3 := frozen_box hbx4
    have HK3 := hid (hk3.mono (Nat.le_refl _) (by omega) (Nat.le_of_lt (Nat.lt_trans hB2 hB3)) (C' := V2.heap.size) (B' := V2.heap.size))
    clear hj3 hk3 hbx4 hR hy c1 c2
    gi_wp2
    refine ⟨⟨HS4.out.turned HJ.out (B' := V.heap.size + 1) (.setCell 0 _ HBX4.out (Nat.le_refl _) (by decide)) hB2 hD2, ?_⟩, HK3.out.trans (.setCell 0 _ (by omega) hB3 hB3)⟩
    rw [HMO.out]
    exact Go.Boxed.set _ HBX4.out
   case done =>
    rintro D X hD ⟨hSQ, hbx⟩ hm
    have HSQ := hid (hSQ.mark (B' := V.heap.size + 1) hB2 hD2 (by omega) hm)
    clear hSQ hbx hm hD
    dsimp only
    gi_wp2
    refine ⟨⟨i + 1, D :: Ds, _, _, _, _, _, _, _, _, _, _, _, _, _, _, _, _, _, by omega, rfl, hid (by rw [HT1.out]; exact HSQ.out)⟩, ?_⟩
    simp [intOf]
    omega
  ·obtain rfl : i = n := by omega
   gi_wp2
   refine leaves_marks Ds V HS.out.2.2.2.1 (fun D hD => (HS.out.2.2.2.2 D hD).2) ⟨_, results_none rfl _ _ _, ⟨_, rfl⟩, ?_⟩
   have := HS.out.shut HJ.out
   rwa [List.take_of_length_le (by rw [HN.out]; exact Nat.le_refl _)] at this
end
section
open Go.RowKit Go.Sort
open Nw N8 Q6 F9 B10 E11
attribute [local go_sem] Oper.semAt_some
theorem IterOk.lower {P : Program} {t : TypeId} {n0 C C' : Nat} {gf : Nat} {lb : Array Value} {xs : List L8} {w : World} (h : IterOk P t n0 C gf lb xs w) (hC : C' ≤ C) : IterOk P t n0 C' gf lb xs w :=
 fun l J W hW hJ hY h0 => h l J W (hW.mono (Nat.le_refl _) hC (Nat.le_refl _)) hJ (fun pre x V hp hj => by
  obtain ⟨fn, tmps, assign, body, hy, hR⟩ := hY pre x V hp hj
  exact ⟨fn, tmps, assign, body, hy, hR.mono fun e V' ⟨h1, h2, h3⟩ => ⟨h1, h2, h3.mono (Nat.le_refl _) hC (Nat.le_refl _)⟩⟩) h0
theorem Seqs.lower {P : Program} {t : TypeId} {n0 C C' : Nat} {v : Value} {xs : List L8} {w : World} (h : Seqs P t n0 C v xs w) (hC : C' ≤ C) : Seqs P t n0 C' v xs w := by
 obtain ⟨gf, lb, h1, h2, h3⟩ := h
 exact ⟨gf, lb, h1, h2, h3.lower hC⟩
def spL (pre : List L8) : List L8 := pre.map fun y => [32, 32] ++ y
theorem spL_snoc (pre : List L8) (x : L8) : spL (pre ++ [x]) = spL pre ++ [[32, 32] ++ x] := by unfold spL; simp
theorem spL_pre {pre xs : List L8} (h : pre <+: xs) : spL pre <+: spL xs := h.map _
theorem Lim.sp {h : L8} {l : List L8} (hl : Lim (h :: spL l)) : Lim l := fun x hx => by
 have := hl ([32, 32] ++ x) (List.mem_cons_of_mem _ (List.mem_map.2 ⟨x, hx, rfl⟩))
 simp only [List.length_append, List.length_cons, List.length_nil] at this
 omega
theorem ent_iter (N : Nat) (HI : InnerOf N) (n0 C bh b : Nat) (d : Nd) (hcd : cntT d ≤ N) (hfd : N8.Fine d) (had : allT 1000000 d) (H : ByteArray) (hlim : Lim (H.data.toList :: spL (lnT d))) (c0 c1 c2 c3 : Value) (w : World) (hCh : C ≤ bh) (hC : C ≤ b) (h0C : n0 ≤ C)
  (hbh : w.heap[bh]? = some (.cells #[.string H] 9 (0, 0))) (hb : Row4 w b 25 c0 c1 c2 c3) (hd : NdC (· < n0) w d c0 c1 c2 c3) :
  IterOk Tryz.prog T8 n0 C 115 #[.pointer (some ⟨bh, 0, none⟩), .pointer (some ⟨b, 0, none⟩)] (H.data.toList :: spL (lnT d)) w := by
 intro l J W hW hJ hY h0
 have hn0w : n0 ≤ w.heap.size := by have := lt_of_heap hb; omega
 have hbW : Row4 W b 25 c0 c1 c2 c3 := kept_box hW hb hC (by decide)
 have hbhW := kept_box hW hbh hCh (by decide)
 have hn0 : n0 ≤ W.heap.size := Nat.le_trans hn0w hW.size
 have hdW : NdC (· < n0) W d c0 c1 c2 c3 := NdC.keep (fun b h => ⟨h, (hW.below hn0w).block b h⟩) _ hd
 have hCW : C ≤ W.heap.size := by have := lt_of_heap hbW; omega
 clear hW hd hb hbh
 obtain ⟨k1, s1, a1, n1, q1, A1, m1, r1, rfl, rfl, rfl, rfl⟩ := hdW.cellsOk
 have HS0 : SQ11 n0 C W J (.func (.yield l) #[] #[]) [] [] (W.alloc (.cells #[.func (.yield l) #[] #[]] 53)) :=
  ⟨hJ _ _ _ h0 (.alloc _ _ _ _), .alloc _ _ _ _ _ _, World.alloc_heap_new W _, List.nodup_nil, fun D h => by cases h⟩
 obtain ⟨fn, tmps, assign, body, hy, hR⟩ := hY [] H.data.toList _ (by rw [List.nil_append]; exact ⟨spL (lnT d), rfl⟩) HS0.1
 rw [enc_q (q := H) rfl] at hy
 have HND := hid hdW
 have HY := hid hY
 have HJ := hid hJ
 have HL := hid hlim
 have HBX := hid (hbW.alloc (.cells #[.func (.yield l) #[] #[]] 53))
 have hbh1 := below_heap (below_alloc W (.cells #[.func (.yield l) #[] #[]] 53)) hbhW
 have c1' := cell_box HS0.2.2.1
 have c2' := cell_box hbh1
 have HSW := hid HS0
 clear hdW hY hJ h0 hlim hbW hbhW hbh1 HS0
 refine callsIn_of_wp_marks Tryz.func115 rfl trivial ?_ rfl
 simp only [Tryz.ntmps115, List.size_toArray, List.length_cons, List.length_nil, Nat.reduceAdd, Nat.reduceSub, Array.replicate_succ, Array.replicate_zero, List.push_toArray, List.append_toArray, List.nil_append, List.cons_append]
 gi_wp2
 refine (roundIn_any hR).mono ?_
 rintro e X ⟨rfl, hj, hk⟩
 have HS1 := hid (HSW.out.kept hj hk)
 have hbX : Row4 X b 25 (.int .i64 k1) (.string s1) (.slice a1 n1 q1) (.slice A1 m1 r1) := kept_box hk HBX.out hC (by decide)
 obtain ⟨x0, x1, x2, x3⟩ := hbX.cells
 have hn0X : n0 ≤ X.heap.size := by have := HS1.out.lt.1; omega
 have HNX := hid (NdC.keep (T := (· < n0)) (w' := X) (fun b h => ⟨h, (HS1.out.2.1.below hn0).block b h⟩) _ HND.out)
 clear hj hk hbX hR hy c1' c2'
 gi_wp2_with fail
 refine ⟨trivial, callsIn_wide.2 ((HI d hcd hfd had HL.out.sp n0 (.int .i64 k1) (.string s1) (.slice a1 n1 q1) (.slice A1 m1 r1) X hn0X HNX.out).mono ?_)⟩
 rintro e W2 ⟨v, rfl, hb2, gf, lb, rfl, eg, hit⟩
 have HS2 := hid (HS1.out.below HJ.out hb2)
 have hsz2 := hb2.size
 have hlt := HS1.out.lt.1
 clear x0 x1 x2 x3 hb2
 gi_wp2
 refine wpIn_lines (n0 := n0) (C := X.heap.size) (xs := lnT d) rfl eg rfl hit (Nat.le_trans hn0X hsz2) hsz2
  (fun pre X => SQ11 n0 C W J (.func (.yield l) #[] #[]) [] (H.data.toList :: spL pre) X)
  (fun s X X' h hT => h.turned HJ.out hT (by omega) (fun D hD => by cases hD)) HS2.out ?a1 ?assign ?body ?done
 case assign =>
  intro l x V K hK
  gi_wp2
  exact hK
 case body =>
  rintro l2 pre x X2 hpre hSQ
  have hp2 : (H.data.toList :: spL pre) ++ [[32, 32] ++ x] = H.data.toList :: spL (pre ++ [x]) := by rw [spL_snoc]; rfl
  have hp1 : (H.data.toList :: spL pre) ++ [[32, 32] ++ x] <+: H.data.toList :: spL (lnT d) := by
   rw [hp2]
   obtain ⟨r, hr⟩ := spL_pre hpre
   exact ⟨r, by rw [← hr]; rfl⟩
  obtain ⟨q, hq⟩ : ∃ q : ByteArray, q.data.toList = x := ⟨ba x, ba_data x⟩
  obtain ⟨fn, tmps, assign, body, hy, hR⟩ := HY.out _ _ X2 hp1 hSQ.1
  rw [hp2] at hR
  rw [enc_q (q := ⟨#[32, 32]⟩ ++ q) (by rw [app_list, hq])] at hy
  have e1 := enc_q hq
  have c1 := cell_box hSQ.2.2.1
  have HSQ := hid hSQ
  have hcat : (⟨#[32, 32]⟩ : ByteArray).size + q.size ≤ 1000000000 := by
   have := HL.out.pre hp1 _ (List.mem_append_right _ (List.mem_singleton.2 rfl))
   rw [List.length_append, ← hq, len_eq] at this
   exact this
  clear hp1 hp2 hpre hSQ hq
  simp only [e1]
  gi_wp2
  refine (roundIn_any hR).mono ?_
  rintro e X3 ⟨rfl, hj3, hk3⟩
  have HS4 := hid (HSQ.out.kept hj3 hk3)
  have HK3 := hid (hk3.mono (Nat.le_refl _) (by omega) (Nat.le_of_lt hlt) (C' := X.heap.size) (B' := X.heap.size))
  clear hj3 hk3 hR hy c1
  gi_wp2
  exact ⟨HS4.out, HK3.out⟩
 case done =>
  rintro D X3 hD hSQ hm
  have HSQ := hid (hSQ.mark (B' := X.heap.size) hlt (fun D h => by cases h) (by omega) hm)
  clear hSQ hm hD
  dsimp only
  gi_wp2
  refine leaves_marks [D] X3 HSQ.out.2.2.2.1 (fun D hD => (HSQ.out.2.2.2.2 D hD).2) ⟨_, results_none rfl _ _ _, ⟨_, rfl⟩, ?_⟩
  exact HSQ.out.shut HJ.out
def EK (n0 : Nat) (w : World) (H : ByteArray) (d : Nd) (c0 c1 c2 c3 : Value) (W : World) : Prop :=
 Below w.heap.size w W ∧ W.heap[w.heap.size]? = some (.cells #[.string H] 9 (0, 0)) ∧ Row4 W (w.heap.size + 1) 25 c0 c1 c2 c3 ∧ NdC (· < n0) W d c0 c1 c2 c3
theorem EK.go {n0 : Nat} {w : World} {H : ByteArray} {d : Nd} {c0 c1 c2 c3 : Value} {W W' : World} (h : EK n0 w H d c0 c1 c2 c3 W) (hn : n0 ≤ w.heap.size) (hb : Below W.heap.size W W') : EK n0 w H d c0 c1 c2 c3 W' :=
 ⟨h.1.trans (hb.mono h.1.size), below_heap hb h.2.1, below_heap hb h.2.2.1, NdC.keep (fun b hlt => ⟨hlt, hb.block b (by have := h.1.size; omega)⟩) _ h.2.2.2⟩
theorem EK.start {n0 : Nat} {w : World} (H : ByteArray) {d : Nd} {c0 c1 c2 c3 : Value} (hn : n0 ≤ w.heap.size) (hd : NdC (· < n0) w d c0 c1 c2 c3) : EK n0 w H d c0 c1 c2 c3 ((w.alloc (.cells #[.string H] 9)).alloc (.cells #[c0, c1, c2, c3] 25)) :=
 ⟨(below_alloc w _).alloc (by simp) _, (Below.heap_alloc _ _ _ (by simp)).trans (World.alloc_heap_new w _), by
  have := World.alloc_heap_new (w.alloc (.cells #[.string H] 9)) (.cells #[c0, c1, c2, c3] 25)
  rwa [World.size_alloc] at this,
  NdC.keep (fun b hlt => ⟨hlt, ((below_alloc w _).alloc (by simp) _).block b (by omega)⟩) _ hd⟩
theorem EK.nd {n0 : Nat} {w : World} {H : ByteArray} {d : Nd} {c0 c1 c2 c3 : Value} {W : World} (h : EK n0 w H d c0 c1 c2 c3 W) (hn : n0 ≤ w.heap.size) : NdW W d c0 c1 c2 c3 :=
 NdC.keep (fun b hlt => ⟨by have := h.1.size; omega, rfl⟩) _ h.2.2.2
theorem entryLines_any (N : Nat) (HI : InnerOf N) (n0 : Nat) (d : Nd) (hcd : cntT d ≤ N) (hfd : N8.Fine d) (had : allT 1000000 d) (H : ByteArray) (hlim : Lim (entL H.data.toList d)) (c0 c1 c2 c3 : Value) (w : World) (hn : n0 ≤ w.heap.size) (hd : NdC (· < n0) w d c0 c1 c2 c3) :
  Calls Tryz.prog 83 #[.string H, .agg #[c0, c1, c2, c3]] w fun e w' => ∃ v, e = .returned v ∧ Below w.heap.size w w' ∧ Seqs Tryz.prog T8 n0 w.heap.size v (entL H.data.toList d) w' := by
 obtain ⟨k1, s1, a1, n1, q1, A1, m1, r1, rfl, rfl, rfl, rfl⟩ := hd.cellsOk
 have HK := hid (EK.start H hn hd)
 have HS := hid (fun b hb W hW => isShort_any d hfd b hb (.int .i64 k1) (.string s1) (.slice a1 n1 q1) (.slice A1 m1 r1) W hW)
 obtain ⟨sh, hsh⟩ : ∃ sh, shrt d = sh := ⟨_, rfl⟩
 have HS1 := hid (fun W hW => HS.out sh hsh W hW)
 obtain ⟨x0, x1, x2, x3⟩ := HK.out.2.2.1.cells
 have h00 := cell_box HK.out.2.1
 unfold entL at hlim ⊢
 clear hd HS
 cases sh with
 | false =>
  rw [if_neg (by rw [hsh]; decide)] at hlim ⊢
  have HIT := hid (fun W hbh hb hnd => ent_iter N HI n0 w.heap.size w.heap.size (w.heap.size + 1) d hcd hfd had H hlim (.int .i64 k1) (.string s1) (.slice a1 n1 q1) (.slice A1 m1 r1) W (Nat.le_refl _) (Nat.le_succ _) hn hbh hb hnd)
  clear hlim hcd hfd had hsh
  go_enter Tryz.func83, Tryz.ntmps83
  go_wp2_with fail
  generalize (w.alloc (.cells #[.string H] 9)).alloc (.cells #[.int .i64 k1, .string s1, .slice a1 n1 q1, .slice A1 m1 r1] 25) = W1 at *
  refine (HS1.out _ (HK.out.nd hn)).mono ?_
  rintro e W2 ⟨rfl, hb2⟩
  have HK2 := hid (HK.out.go hn hb2)
  clear x0 x1 x2 x3 h00 hb2
  go_wp2
  go_ret
  exact ⟨_, rfl, HK2.out.1, _, _, rfl, enters_of Tryz.func115 (by kernel_rfl) rfl, HIT.out W2 HK2.out.2.1 HK2.out.2.2.1 HK2.out.2.2.2⟩
 | true =>
  rw [if_pos hsh] at hlim ⊢
  obtain ⟨Z, hZ⟩ : ∃ Z, ba (scal d) = Z := ⟨_, rfl⟩
  have hZl : Z.data.toList = scal d := by rw [← hZ, ba_data]
  have HZ := hid (fun W hW => shortForm_any d hfd (text_all had) Z hZl.symm (.int .i64 k1) (.string s1) (.slice a1 n1 q1) (.slice A1 m1 r1) W hW)
  have hcat : H.size + 1 + Z.size ≤ 1000000000 := by
   have := hlim _ List.mem_cons_self
   rw [← hZl] at this
   simp only [List.length_append, List.length_cons, List.length_nil, len_eq] at this
   omega
  have HLN : Hid ([H.data.toList ++ [32] ++ scal d] = [(H ++ ⟨#[32]⟩ ++ Z).data.toList]) := hid (by rw [app_list, app_list, hZl])
  clear hlim hcd had hsh hZ hZl hfd
  rw [HLN.out]
  have HO := hid (fun W => oneLine_any n0 (H ++ ⟨#[32]⟩ ++ Z) W)
  have hc1 : (⟨#[32]⟩ : ByteArray).size = 1 := rfl
  have hk1 : (9223372036854775807 < H.size + 1) = False := eq_false (by omega)
  have hk2 : (9223372036854775807 < H.size + 1 + Z.size) = False := eq_false (by omega)
  go_enter Tryz.func83, Tryz.ntmps83
  go_wp2_with fail
  generalize (w.alloc (.cells #[.string H] 9)).alloc (.cells #[.int .i64 k1, .string s1, .slice a1 n1 q1, .slice A1 m1 r1] 25) = W1 at *
  refine (HS1.out _ (HK.out.nd hn)).mono ?_
  rintro e W2 ⟨rfl, hb2⟩
  have HK2 := hid (HK.out.go hn hb2)
  clear x0 x1 x2 x3 h00 hb2
  go_wp2
  have hE : ∀ W, EK n0 w H d (.int .i64 k1) (.string s1) (.slice a1 n1 q1) (.slice A1 m1 r1) W → W.cell? ⟨w.heap.size, 0, none⟩ = some (.string H) ∧ W.cell? ⟨w.heap.size + 1, 0, none⟩ = some (.int .i64 k1) ∧ W.cell? ⟨w.heap.size + 1, 1, none⟩ = some (.string s1) ∧ W.cell? ⟨w.heap.size + 1, 2, none⟩ = some (.slice a1 n1 q1) ∧ W.cell? ⟨w.heap.size + 1, 3, none⟩ = some (.slice A1 m1 r1) ∧ EK n0 w H d (.int .i64 k1) (.string s1) (.slice a1 n1 q1) (.slice A1 m1 r1) W := fun W h => ⟨cell_box h.2.1, h.2.2.1.cells.1, h.2.2.1.cells.2.1, h.2.2.1.cells.2.2.1, h.2.2.1.cells.2.2.2, h⟩
  have HE := hid hE
  clear hE
  have hS1 := HE.out W2.drew (HK2.out.go hn (drewN_q W2 1))
  go_region_held3 (fun W => W.cell? ⟨w.heap.size, 0, none⟩ = some (.string H) ∧ W.cell? ⟨w.heap.size + 1, 0, none⟩ = some (.int .i64 k1) ∧ W.cell? ⟨w.heap.size + 1, 1, none⟩ = some (.string s1) ∧ W.cell? ⟨w.heap.size + 1, 2, none⟩ = some (.slice a1 n1 q1) ∧ W.cell? ⟨w.heap.size + 1, 3, none⟩ = some (.slice A1 m1 r1) ∧ EK n0 w H d (.int .i64 k1) (.string s1) (.slice a1 n1 q1) (.slice A1 m1 r1) W) (first | exact hS1 | exact hS2 | exact hS3)
   (first
    | (go_at_call 57; refine (HZ.out _ (hS1.2.2.2.2.2.nd hn)).mono ?_; rintro e2 w2 ⟨rfl, hb2⟩; have hS2 := HE.out _ (hS1.2.2.2.2.2.go hn hb2))
    | (go_at_call 37; refine (HO.out _).mono ?_; rintro e3 w3 ⟨v, rfl, hb3, hseq⟩; have hS3 := HE.out _ (hS2.2.2.2.2.2.go hn hb3)))
  all_goals
   have HR := hid (And.intro hS3.2.2.2.2.2.1 (hseq.lower hS2.2.2.2.2.2.1.size))
   clear hS1 hS2 hS3 hseq hb2 hb3
   go_wp2
   go_ret
   exact ⟨_, rfl, HR.out.1, HR.out.2⟩
end
end Go.Proofs.YtmdgpejedbkkdaaGreatDoor
