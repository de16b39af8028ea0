/- BloSeq, BloRdE -/
import Derived.Lib.SliceRun
import Derived.Test.YtmdgpejedbkkdaaGreatDoorBT38
import Derived.Test.YtmdgpejedbkkdaaGreatDoorBT40
set_option linter.unusedVariables false
set_option linter.unusedSimpArgs false
set_option maxRecDepth 100000
set_option maxHeartbeats 16000000
open Go.Lib (hid)
namespace Go.Proofs.YtmdgpejedbkkdaaGreatDoor
section
open Go.RowKit Go.Sort
open Nw N8 Q6 F9 B10 Go.ChangeShapes Go.WideShapes
theorem Clone10_any (S : Nat → Prop) (base : Nat) (v : Value) (qs : List Q4) (ds : List Nd) (w : World) (hS : ∀ b, S b → b < w.heap.size) (h : KO S base w v qs ds) (hl : ds.length ≤ 100000) :
  Calls Tryz.prog 128 #[v] w fun e w' => ∃ v', e = .returned v' ∧ KO S w.heap.size w' v' qs ds ∧ Below w.heap.size w w' := by
 have hcell := fun g (hg : v.ownBlock = some g) j u (hu : (flat4 qs)[j]? = some u) => @World.ownsRow.cells _ _ _ _ _ _ _ h.1 g hg j u hu
 have hq := h.2.1
 have hqd := h.2.2
 have hone := flat4_one hq hqd
 have hfl : (flat4 qs).length = ds.length * 4 := by rw [flat4_len, hq]
 have hE := h.1.2
 clear h
 rcases hE with ⟨hv, hn0⟩ | ⟨g, cap, cur, hv, -, -, hnc, hcm, -⟩
 ·subst hv
  obtain rfl : ds = [] := List.length_eq_zero_iff.1 hn0
  obtain rfl : qs = [] := List.length_eq_zero_iff.1 hq
  clear hcell hqd hone hfl
  have q23 : ∀ (w : World) (a : Option Addr) (n c n' c' : Nat), (binOp .eql 23 (.slice a n c) (.slice none n' c')).run Tryz.prog w = .ok (.bool a.isNone) w := fun w a n c n' c' => Lib.run_eql_slice_nil w _ _ a n c n' c' Tryz.underlying23
  go_enter Tryz.func128, Tryz.ntmps128
  go_wp2
  go_ret
  exact ⟨_, rfl, ⟨World.ownsRow_nil _ _ _ _, rfl, fun j hj => absurd hj (Nat.not_lt_zero _)⟩, Below.refl _ _⟩
 ·subst hv
  obtain ⟨i0, hi, hz0, hz1, hz2⟩ := infoN
  have HQC := hid (hcell g rfl)
  have HQD := hid hqd
  have HONE := hid hone
  have HFL := hid hfl
  have HS := hid hS
  have HQ := hid hq
  obtain ⟨n, hn⟩ : ∃ n, ds.length = n := ⟨_, rfl⟩
  have HN := hid hn
  rw [hn] at hnc hl HFL ⊢
  obtain ⟨X, hX⟩ : ∃ X, flat4 qs = X := ⟨_, rfl⟩
  have HX := hid hX
  rw [hX] at HQC HONE HFL
  clear hq hqd hcell hone hfl hS hn hX
  unfold maxLen at hcm
  have q23 : ∀ (w : World) (a : Option Addr) (n c n' c' : Nat), (binOp .eql 23 (.slice a n c) (.slice none n' c')).run Tryz.prog w = .ok (.bool a.isNone) w := fun w a n c n' c' => Lib.run_eql_slice_nil w _ _ a n c n' c' Tryz.underlying23
  go_enter Tryz.func128, Tryz.ntmps128
  go_wp2_with (at_builtin; refine wpList_append_own _ rfl _ _ 23 rfl w.heap.size 25 i0 _ 4 72 Tryz.underlying23 hi hz0 hz1 hz2 rfl (by decide) _ _ _ rfl (World.ownsRow_made w #[] 0 (Nat.le_refl _) (Nat.zero_le _) (by simp)) ⟨g, 0, none⟩ n cap X rfl ?qc1 ?qc2 ?qc3 ?qc4 ?qc5 ?qc6 ?_)
  case qc1 => exact HFL.out
  case qc2 =>
   intro j u hj
   exact cells_alloc (HQC.out j u hj)
  case qc3 => exact HONE.out
  case qc4 => rw [Nat.zero_add]; unfold maxLen; omega
  case qc5 => rw [Nat.zero_add]; omega
  case qc6 => simp
  intro v' w1 hown hgrow hnil
  have HO := hid hown
  have HB : Hid (Below w.heap.size w w1) := hid (((Below.refl _ w).alloc (Nat.le_refl _) _).grown hgrow (by simp) (by intro k hk; simp [Value.ownBlock] at hk; omega))
  clear hown hgrow hnil
  go_wp2
  go_ret
  refine ⟨v', rfl, ⟨by rw [HN.out, HX.out]; simpa using HO.out, HQ.out, fun j hj g => NdC.keep (fun b hb => ⟨hb, HB.out.block b (HS.out b hb)⟩) _ (HQD.out j hj g)⟩, HB.out⟩
theorem nd_seq {T : Nat → Prop} {w : World} {v : Value} {ds : List Nd} (h : KdS T w v ds) : NdC T w (.mk 2 [] [] ds) (.int .i64 2) (.string ⟨#[]⟩) (.slice none 0 0) v := by
 rw [NdC]
 exact ⟨rfl, rfl, ⟨none, 0, rfl, Nat.zero_le _, Nat.zero_le _, .inl ⟨rfl, fun _ => rfl⟩⟩, h⟩
theorem Seq10_any (S : Nat → Prop) (base : Nat) (v : Value) (qs : List Q4) (ds : List Nd) (w : World) (hS : ∀ b, S b → b < w.heap.size) (h : KO S base w v qs ds) (hl : ds.length ≤ 100000) :
  Calls Tryz.prog 104 #[v] w fun e w' => ∃ (A : Option Addr) (m q : Nat), e = .returned (.agg #[.int .i64 2, .string ⟨#[]⟩, .slice none 0 0, .slice A m q]) ∧
   NdC (fun b => S b ∨ (w.heap.size ≤ b ∧ b < w'.heap.size)) w' (.mk 2 [] [] ds) (.int .i64 2) (.string ⟨#[]⟩) (.slice none 0 0) (.slice A m q) ∧ Below w.heap.size w w' := by
 have hal : Below w.heap.size w (w.alloc (.cells #[.int .i64 0, .string ⟨#[]⟩, .slice none 0 0, .slice none 0 0] 25)) := (Below.refl _ _).alloc (Nat.le_refl _) _
 have HC := hid (Clone10_any S base v qs ds _ (fun b hb => Nat.lt_of_lt_of_le (hS b hb) hal.size) (h.below hS hal) hl)
 have HAL := hid hal
 have HR := hid (Row4.make w 25 (.int .i64 0) (.string ⟨#[]⟩) (.slice none 0 0) (.slice none 0 0))
 have HS := hid hS
 have hs0 : (w.alloc (.cells #[.int .i64 0, .string ⟨#[]⟩, .slice none 0 0, .slice none 0 0] 25)).heap.size = w.heap.size + 1 := by simp
 have HS0 := hid hs0
 obtain ⟨A0, c0, rfl⟩ := own_shape h.1
 clear h hal hS hs0
 generalize hW0 : w.alloc (.cells #[.int .i64 0, .string ⟨#[]⟩, .slice none 0 0, .slice none 0 0] 25) = W0 at *
 go_enter Tryz.func104, Tryz.ntmps104
 go_wp2_with fail
 refine HC.out.mono ?_
 rintro e w2 ⟨v', rfl, hko, hb⟩
 have hlt := HR.out.lt
 have hb2 : Below w.heap.size w w2 := HAL.out.trans (hb.mono HAL.out.size)
 have HB := hid hb2
 have HR2 := hid (HR.out.below hb HR.out.lt)
 obtain ⟨A2, cap2, rfl⟩ := own_shape hko.1
 have hko2 : KO S W0.heap.size (p4 w2 w.heap.size (.int .i64 2) (.string ⟨#[]⟩) (.slice none 0 0) (.slice A2 ds.length cap2)) (.slice A2 ds.length cap2) qs ds :=
  hko.keep (fun b hs => ⟨hs, p4_oth b (by have := HS.out b hs; omega) _ _ _ _⟩) fun b hb' => p4_oth b (by have h1 := (hko.1.lt b hb').1; have h2 := HS0.out; omega) _ _ _ _
 have HN : Hid (NdC (fun b => S b ∨ (w.heap.size ≤ b ∧ b < (p4 w2 w.heap.size (.int .i64 2) (.string ⟨#[]⟩) (.slice none 0 0) (.slice A2 ds.length cap2)).heap.size)) (p4 w2 w.heap.size (.int .i64 2) (.string ⟨#[]⟩) (.slice none 0 0) (.slice A2 ds.length cap2)) (.mk 2 [] [] ds) (.int .i64 2) (.string ⟨#[]⟩) (.slice none 0 0) (.slice A2 ds.length cap2)) := hid (nd_seq (hko2.kdS (fun b hb' => .inl hb') fun b hb' => .inr (by
  have h1 := hko2.1.lt b hb'
  have h2 := HS0.out
  exact ⟨by omega, h1.2⟩)))
 clear hko hko2 hb hb2 hlt
 generalize ds.length = m at *
 obtain ⟨z0, z1, z2, z3⟩ := HR2.out.cells
 obtain ⟨f0, f1, f2, f3⟩ := HR2.out.frozen
 go_wp2
 refine bodyPost_ret (v := .agg #[.int .i64 2, .string ⟨#[]⟩, .slice none 0 0, .slice A2 m cap2]) (by simp [results, Tryz.results104, go_sem, z0, z1, z2, z3]) rfl ?_
 exact ⟨A2, m, cap2, rfl, HN.out, below_p4 HB.out (Nat.le_refl _) _ _ _ _⟩
end
section
open Go.RowKit Go.Sort
open Nw N8 Q6 F9 B10 Go.ChangeShapes Go.WideShapes
def SBk (w W : World) (v : Value) (b : Nat) : Prop := w.heap.size + 1 ≤ b ∧ b < W.heap.size ∧ v.ownBlock ≠ some b
def SQ (w0 : World) (g : Nat) (sl : Value) (n : Nat) (M : List Ln) (p lvl : Nat) (T : Res) (w W : World) (v : Value) (M1 : List Ln) (p1 : Nat) (ds : List Nd) (qs : List Q4) : Prop :=
 (RD w0 g sl n w M p ∧ RD w0 g sl n W M1 p1 ∧ KP g sl w W ∧ Row4 W w.heap.size 25 (.int .i64 0) (.string ⟨#[]⟩) (.slice none 0 0) (.slice none 0 0)) ∧
  (p ≤ p1 ∧ ds.length ≤ p1 ∧ M1.drop p1 = M.drop p1) ∧ SeqI lvl T ds (p1 - p) (M1.drop p1) ∧ KO (SBk w W v) (w.heap.size + 1) W v qs ds
section
variable {w0 w W W1 W2 : World} {g n p lvl p1 : Nat} {sl v : Value} {M M1 : List Ln} {T : Res} {ds : List Nd} {qs : List Q4}
theorem RD.grown (h : RD w0 g sl n W1 M1 p1) (hd : RD w0 g sl n w M p) {row : Option Nat} (hg : W1.grownBy W2 row) (hr : ∀ k, row = some k → w.heap.size ≤ k) : RD w0 g sl n W2 M1 p1 := by
 have hgl := hd.lt
 have how := hd.own
 have hlt := h.lt
 have how1 := h.own
 have hbs := hd.base.size
 obtain ⟨⟨a1, a2⟩, a3, a4, a5⟩ := h
 exact ⟨⟨a1.grown hg a1.size fun k hk => by have := hr k hk; omega, a2⟩, a3, (hg.block g hlt fun e => by have := hr g e.symm; omega).trans a4, owns_keep a5 fun k hk => hg.block k (how1 k hk).2 fun e => by have := hr k e.symm; have := (how k hk).2; omega⟩
theorem KP.grown (k : KP g sl w W1) {row : Option Nat} (hg : W1.grownBy W2 row) (hr : ∀ k, row = some k → w.heap.size ≤ k) : KP g sl w W2 :=
 ⟨hg.os.trans k.os, hg.tape.trans k.tape, hg.output.trans k.output, Nat.le_trans k.size hg.size, fun i hi h1 h2 => (hg.block i (Nat.lt_of_lt_of_le hi k.size) fun e => by have := hr i e.symm; omega).trans (k.block i hi h1 h2)⟩
theorem drop_on {M M1 : List Ln} {p1 p2 : Nat} (h : M1.drop p1 = M.drop p1) (hp : p1 ≤ p2) : M1.drop p2 = M.drop p2 := by
 obtain ⟨j, rfl⟩ : ∃ j, p2 = p1 + j := ⟨p2 - p1, by omega⟩
 rw [← List.drop_drop, ← List.drop_drop, h]
theorem SQ.start (h : RD w0 g sl n w M p) (lvl : Nat) : SQ w0 g sl n M p lvl (seqB lvl [] (M.drop p)) w (w.alloc (.cells #[.int .i64 0, .string ⟨#[]⟩, .slice none 0 0, .slice none 0 0] 25)) (.slice none 0 0) M p [] [] :=
 ⟨⟨h, h.go ((Below.refl _ _).alloc (Nat.le_refl _) _), KP.of ((Below.refl _ _).alloc (Nat.le_refl _) _), Row4.make w _ _ _ _ _⟩, ⟨Nat.le_refl _, Nat.zero_le _, rfl⟩, by rw [Nat.sub_self]; exact SeqI.start _ _, World.ownsRow_nil _ _ _ _, rfl, fun j hj => absurd hj (Nat.not_lt_zero _)⟩
theorem SQ.go (h : SQ w0 g sl n M p lvl T w W v M1 p1 ds qs) (hb : Below W.heap.size W W1) : SQ w0 g sl n M p lvl T w W1 v M1 p1 ds qs := by
 obtain ⟨⟨a1, a2, a3, a4⟩, b, c, d⟩ := h
 exact ⟨⟨a1, a2.go hb, a3.go hb, a4.below hb a4.lt⟩, b, c, d.keep (fun b hs => ⟨⟨hs.1, Nat.lt_of_lt_of_le hs.2.1 hb.size, hs.2.2⟩, hb.block b hs.2.1⟩) fun b hb' => hb.block b (d.1.lt b hb').2⟩
theorem SQ.rd (h : SQ w0 g sl n M p lvl T w W v M1 p1 ds qs) : RD w0 g sl n W M1 p1 := h.1.2.1
theorem SQ.at_ (h : SQ w0 g sl n M p lvl T w W v M1 p1 ds qs) : RD w0 g sl n w M p := h.1.1
theorem SQ.low (h : SQ w0 g sl n M p lvl T w W v M1 p1 ds qs) : w.heap.size < W.heap.size := h.1.2.2.2.lt
theorem SQ.few (h : SQ w0 g sl n M p lvl T w W v M1 p1 ds qs) : ds.length ≤ 100000 := by
 have h1 := h.2.1.2.1
 have h2 := h.rd.2.1.2.1
 have h3 := h.rd.n_le
 omega
theorem SQ.kid {x1 : Ln} {l1 M2 : List Ln} {p2 : Nat} {d : Nd} {q : Q4} {v' : Value} (h : SQ w0 g sl n M p lvl T w W v M1 p1 ds qs) (hx : M1.drop p1 = x1 :: l1) (hi : x1.ind = lvl) (hy : hyp x1.text = true) (hk : KP g sl W W1) (h2 : RD w0 g sl n W1 M2 p2) (hlt : p1 + 1 ≤ p2) (hd : M2.drop p2 = M1.drop p2)
  (hG : Gets lvl (kidS lvl x1 l1) d (p2 - p1) (M2.drop p2)) (hN : NdC (fun b => W.heap.size ≤ b ∧ b < W1.heap.size) W1 d q.a q.b q.c q.d) (ho : W2.ownsRow (w.heap.size + 1) 25 4 v' (ds.length + 1) (flat4 qs ++ [q.a, q.b, q.c, q.d])) (hg : W1.grownBy W2 v.ownBlock) (hk' : v'.ownBlock = v.ownBlock ∨ v'.ownBlock = some W1.heap.size) :
  SQ w0 g sl n M p lvl T w W2 v' M2 p2 (ds ++ [d]) (qs ++ [q]) := by
 obtain ⟨⟨a1, a2, a3, a4⟩, ⟨b1, b2, b3⟩, c, e1, e2, e3⟩ := h
 have hrow : ∀ k, v.ownBlock = some k → w.heap.size + 1 ≤ k ∧ k < W.heap.size := fun k hk => e1.lt k hk
 have hr : ∀ k, v.ownBlock = some k → w.heap.size ≤ k := fun k hk => by have := (hrow k hk).1; omega
 have hgl := a1.lt
 have how := a1.own
 have hkb : ∀ b, w.heap.size ≤ b → b < W.heap.size → W1.heap[b]? = W.heap[b]? := fun b h1 h2 => hk.block b h2 (by omega) fun e => by have := (how b e).2; omega
 have hws := a3.size
 have hk1 := hk.size
 have hk2 := hg.size
 refine ⟨⟨a1, h2.grown a1 hg hr, (a3.trans hk).grown hg hr, ?_⟩, ⟨by omega, by rw [List.length_append, List.length_singleton]; omega, ?_⟩, ?_, ?_, by rw [List.length_append, List.length_append, e2]; rfl, fun j hj gj => ?_⟩
 ·have h3 := a4.lt
  exact (hg.block _ (by omega) fun e => by have := (hrow _ e.symm).1; omega).trans ((hkb _ (Nat.le_refl _) h3).trans a4)
 ·rw [hd]; exact drop_on b3 (by omega)
 ·have := c
  rw [hx] at this
  have h4 := this.next hi hy hG (by rw [hd, ← hx, List.drop_drop, show p1 + (p2 - p1) = p2 by omega])
  rwa [show p1 - p + (p2 - p1) = p2 - p by omega] at h4
 ·rw [flat4_app, List.length_append]
  exact ho
 ·by_cases hjl : j < qs.length
  ·rw [List.getElem_append_left hjl, List.getElem_append_left (by omega)]
   refine NdC.keep (fun b hb => ?_) _ (e3 j hjl (by omega))
   obtain ⟨s1, s2, s3⟩ := hb
   refine ⟨⟨s1, by omega, fun e => ?_⟩, (hg.block b (by omega) fun e => s3 e.symm).trans (hkb b (by omega) s2)⟩
   rcases hk' with hk' | hk'
   ·exact s3 (hk'.symm.trans e)
   ·rw [hk'] at e; injection e with e; omega
  ·rw [List.getElem_append_right (by omega), List.getElem_append_right (by omega)]
   have i1 : j - qs.length = 0 := by simp at hj; omega
   have i2 : j - ds.length = 0 := by omega
   simp only [i1, i2, List.getElem_cons_zero]
   refine NdC.keep (fun b hb => ?_) _ hN
   obtain ⟨s1, s2⟩ := hb
   have h3 := a4.lt
   refine ⟨⟨by omega, by omega, fun e => ?_⟩, hg.block b s2 fun e => by have := (hrow b e.symm).2; omega⟩
   rcases hk' with hk' | hk'
   ·have := (hrow b (hk'.symm.trans e)).2; omega
   ·rw [hk'] at e; injection e with e; omega
theorem SQ.end_ {k : Int} {t : ByteArray} {a : Option Addr} {i c : Nat} {A : Option Addr} {m q : Nat} (h : SQ w0 g sl n M p lvl T w W v M1 p1 ds qs) (hp : p + 1 ≤ p1) (hG : Gets lvl T (.mk 2 [] [] ds) (p1 - p) (M1.drop p1)) (hb : Below W.heap.size W W1)
  (hN : NdC (fun b => SBk w W v b ∨ (W.heap.size ≤ b ∧ b < W1.heap.size)) W1 (.mk 2 [] [] ds) (.int .i64 k) (.string t) (.slice a i c) (.slice A m q)) :
  Out w0 g sl n M p (p + 1) lvl T w (.returned (.tuple #[.agg #[.int .i64 k, .string t, .slice a i c, .slice A m q], .int .i64 0])) (p4 W1 w.heap.size (.int .i64 k) (.string t) (.slice a i c) (.slice A m q)) := by
 have h3 := h.low
 have hs := hb.size
 refine out_end h.at_ (h.1.2.2.1.go hb) ⟨M1, p1, h.rd.go hb, .inl ⟨rfl, hp, h.2.1.2.2, _, hG, NdC.keep (fun b hx => ⟨?_, rfl⟩) _ hN⟩⟩
 rcases hx with hx | hx
 ·exact ⟨hx.1, by have := hx.2.1; omega⟩
 ·exact ⟨by have := hx.1; omega, hx.2⟩
theorem SQ.bad {x1 y : Ln} {l1 t1 M2 : List Ln} {p2 : Nat} {E : Int} {k : Int} {t : ByteArray} {a : Option Addr} {i c : Nat} {A : Option Addr} {m q : Nat} (h : SQ w0 g sl n M p lvl T w W v M1 p1 ds qs) (hx : M1.drop p1 = x1 :: l1) (hi : x1.ind = lvl) (hy : hyp x1.text = true) (hk : KP g sl W W1) (h2 : RD w0 g sl n W1 M2 p2) (hE : E ≠ 0) (hK : kidS lvl x1 l1 = .bad y.no E) (hd : M2.drop p2 = y :: t1) :
  Out w0 g sl n M p (p + 1) lvl T w (.returned (.tuple #[.agg #[.int .i64 k, .string t, .slice a i c, .slice A m q], .int .i64 E])) (p4 W1 w.heap.size (.int .i64 k) (.string t) (.slice a i c) (.slice A m q)) := by
 have hc := h.2.2.1
 rw [hx] at hc
 exact out_bad h.at_ (h.1.2.2.1.trans hk) h2 hE (hc.bad hi hy hK) hd
theorem OutC.cut {R : Res} {E : Int} {N : Nd → Prop} {lv : Nat} {y : Ln} (h : OutC w0 g sl n (M1.set p1 y) p1 (p1 + 1) lv R E W N) : OutC w0 g sl n M1 p1 (p1 + 1) lv R E W N := by
 obtain ⟨M', p', h1, h2⟩ := h
 refine ⟨M', p', h1, ?_⟩
 rcases h2 with ⟨h2, h3, h4, h5⟩ | h2
 ·exact .inl ⟨h2, h3, by rw [h4, List.drop_set, if_pos (by omega)], h5⟩
 ·exact .inr h2
theorem Row4.put0 {b : Nat} {T : TypeId} {a0 a1 a2 a3 : Value} (h : Row4 w b T a0 a1 a2 a3) (c : Value) : Row4 (w.setCell ⟨b, 0, none⟩ c) b T c a1 a2 a3 := Lib.heap_setCell_same (i := 0) h c
theorem Row4.put1 {b : Nat} {T : TypeId} {a0 a1 a2 a3 : Value} (h : Row4 w b T a0 a1 a2 a3) (c : Value) : Row4 (w.setCell ⟨b, 1, none⟩ c) b T a0 c a2 a3 := Lib.heap_setCell_same (i := 1) h c
theorem Row4.put2 {b : Nat} {T : TypeId} {a0 a1 a2 a3 : Value} (h : Row4 w b T a0 a1 a2 a3) (c : Value) : Row4 (w.setCell ⟨b, 2, none⟩ c) b T a0 a1 c a3 := Lib.heap_setCell_same (i := 2) h c
theorem Row4.put3 {b : Nat} {T : TypeId} {a0 a1 a2 a3 : Value} (h : Row4 w b T a0 a1 a2 a3) (c : Value) : Row4 (w.setCell ⟨b, 3, none⟩ c) b T a0 a1 a2 c := Lib.heap_setCell_same (i := 3) h c
theorem Row4.put {b : Nat} {T : TypeId} {a0 a1 a2 a3 : Value} (h : Row4 w b T a0 a1 a2 a3) (c0 c1 c2 c3 : Value) : Row4 (p4 w b c0 c1 c2 c3) b T c0 c1 c2 c3 := (((h.put0 c0).put1 c1).put2 c2).put3 c3
theorem SQ.fill {b : Nat} {x1 : Ln} {l1 : List Ln} {E : Int} {c0 c1 c2 c3 : Value} (h : SQ w0 g sl n M p lvl T w W v M1 p1 ds qs) (hb : W.heap.size ≤ b) (hb2 : b < W2.heap.size) (hk : KP g sl W W1) (hs : W2.heap.size ≤ W1.heap.size)
  (hc : OutC w0 g sl n M1 p1 (p1 + 1) lvl (kidS lvl x1 l1) E W1 (fun d => NdC (fun z => W2.heap.size ≤ z ∧ z < W1.heap.size) W1 d c0 c1 c2 c3)) :
  KP g sl W (p4 W1 b c0 c1 c2 c3) ∧ OutC w0 g sl n M1 p1 (p1 + 1) lvl (kidS lvl x1 l1) E (p4 W1 b c0 c1 c2 c3) (fun d => NdC (fun z => W.heap.size ≤ z ∧ z < (p4 W1 b c0 c1 c2 c3).heap.size) (p4 W1 b c0 c1 c2 c3) d c0 c1 c2 c3) :=
 ⟨hk.box hb _ _ _ _, hc.imp (fun M' p' h' => h.rd.box h' hb _ _ _ _) fun d hd => NdC.keep (fun z hz => ⟨⟨by have := hz.1; omega, by rw [p4_size]; exact hz.2⟩, p4_oth z (by have := hz.1; omega) _ _ _ _⟩) _ hd⟩
theorem SQ.kept (h : SQ w0 g sl n M p lvl T w W v M1 p1 ds qs) (hk : KP g sl W W1) : W1.ownsRow (w.heap.size + 1) 25 4 v ds.length (flat4 qs) ∧ Row4 W1 w.heap.size 25 (.int .i64 0) (.string ⟨#[]⟩) (.slice none 0 0) (.slice none 0 0) :=
 ⟨owns_keep h.2.2.2.1 fun b hb => by
  have h1 := h.2.2.2.1.lt b hb
  exact hk.block b h1.2 (by have := h.at_.lt; omega) fun e => by have := (h.at_.own b e).2; omega, h.at_.row4 hk (Nat.le_refl _) h.1.2.2.2⟩
end
end
end Go.Proofs.YtmdgpejedbkkdaaGreatDoor
