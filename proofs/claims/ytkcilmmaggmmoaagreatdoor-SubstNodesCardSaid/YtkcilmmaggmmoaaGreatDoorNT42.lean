/- RefSub4 -/
import Derived.Test.YtkcilmmaggmmoaaGreatDoorNT11
import Derived.Test.YtkcilmmaggmmoaaGreatDoorNT23
import Derived.Test.YtkcilmmaggmmoaaGreatDoorNT33
set_option linter.unusedVariables false
set_option linter.unusedSimpArgs false
set_option maxRecDepth 100000
set_option maxHeartbeats 16000000
open Go.Lib (hid)
namespace Go.Proofs.YtkcilmmaggmmoaaGreatDoor
namespace N8
end N8
namespace Nw
end Nw
namespace S14
end S14
namespace V12
end V12
end Go.Proofs.YtkcilmmaggmmoaaGreatDoor
namespace Go.Proofs.YtkcilmmaggmmoaaGreatDoor
section
open Go.RowKit Go.Sort
open Nw V12 S14 Go.ChangeShapes Go.WideShapes
open N8 (Nd)
def OwnY (S : Nat → Prop) (w W : World) (v : Value) (b : Nat) : Prop := S b ∨ (w.heap.size + 3 ≤ b ∧ b < W.heap.size ∧ v.ownBlock ≠ some b)
def RQ (S : Nat → Prop) (w W : World) (n0 n1 n2 n3 : Value) (k : Int) (T : ByteArray) (c2 s8 : Value) (M : List Nd) : Prop :=
 Below w.heap.size w W ∧ Row4 W w.heap.size 25 n0 n1 n2 n3 ∧ Row4 W (w.heap.size + 1) 25 (.int .i64 0) (.string ⟨#[]⟩) (.slice none 0 0) (.slice none 0 0) ∧
  Row4 W (w.heap.size + 2) 25 (.int .i64 k) (.string T) c2 s8 ∧ ∃ qs, KO (OwnY S w W s8) (w.heap.size + 3) W s8 qs M
section
variable {S : Nat → Prop} {w W W0 W1 W2 wr : World} {n0 n1 n2 n3 c2 s8 s' : Value} {k : Int} {T : ByteArray} {M : List Nd}
theorem RQ.size (h : RQ S w W n0 n1 n2 n3 k T c2 s8 M) : w.heap.size + 3 ≤ W.heap.size := h.2.2.2.1.lt
theorem RQ.goK {v : Value} {qs : List Q4} (hS : ∀ b, S b → b < w.heap.size) (hs : w.heap.size + 3 ≤ W0.heap.size) (h : KO (OwnY S w W0 v) (w.heap.size + 3) W0 v qs M) (hb : Below W0.heap.size W0 W1) : KO (OwnY S w W1 v) (w.heap.size + 3) W1 v qs M := by
 refine h.keep (fun b hx => ?_) fun b hx => hb.block b (h.1.lt b hx).2
 rcases hx with hx | ⟨a1, a2, a3⟩
 ·exact ⟨.inl hx, hb.block b (by have := hS b hx; omega)⟩
 ·exact ⟨.inr ⟨a1, Nat.lt_of_lt_of_le a2 hb.size, a3⟩, hb.block b a2⟩
theorem RQ.go (hS : ∀ b, S b → b < w.heap.size) (h : RQ S w W0 n0 n1 n2 n3 k T c2 s8 M) (hb : Below W0.heap.size W0 W1) : RQ S w W1 n0 n1 n2 n3 k T c2 s8 M := by
 have hs := h.size
 obtain ⟨h1, h2, h3, h4, qs, h5⟩ := h
 exact ⟨h1.trans (hb.mono h1.size), h2.below hb (by omega), h3.below hb (by omega), h4.below hb (by omega), qs, RQ.goK hS hs h5 hb⟩
theorem RQ.make (S : Nat → Prop) (w : World) (n0 n1 n2 n3 : Value) (k : Int) (c2 : Value) : RQ S w (((w.alloc (.cells #[n0, n1, n2, n3] 25)).alloc (.cells #[.int .i64 0, .string ⟨#[]⟩, .slice none 0 0, .slice none 0 0] 25)).alloc (.cells #[.int .i64 k, .string ⟨#[]⟩, c2, .slice none 0 0] 25)) n0 n1 n2 n3 k ⟨#[]⟩ c2 (.slice none 0 0) [] := by
 have e1 := Row4.make (w.alloc (.cells #[n0, n1, n2, n3] 25)) 25 (.int .i64 0) (.string ⟨#[]⟩) (.slice none 0 0) (.slice none 0 0)
 rw [show (w.alloc (.cells #[n0, n1, n2, n3] 25)).heap.size = w.heap.size + 1 by simp] at e1
 have e2 := Row4.make ((w.alloc (.cells #[n0, n1, n2, n3] 25)).alloc (.cells #[.int .i64 0, .string ⟨#[]⟩, .slice none 0 0, .slice none 0 0] 25)) 25 (.int .i64 k) (.string ⟨#[]⟩) c2 (.slice none 0 0)
 rw [show ((w.alloc (.cells #[n0, n1, n2, n3] 25)).alloc (.cells #[.int .i64 0, .string ⟨#[]⟩, .slice none 0 0, .slice none 0 0] 25)).heap.size = w.heap.size + 2 by simp] at e2
 refine ⟨(((Below.refl _ _).alloc (Nat.le_refl _) _).alloc (by simp) _).alloc (by simp; omega) _, ((Row4.make w _ _ _ _ _).alloc _).alloc _, e1.alloc _, e2, [], ⟨rfl, .inl ⟨rfl, rfl⟩⟩, rfl, fun j h => absurd h (Nat.not_lt_zero _)⟩
theorem RQ.text {T' : ByteArray} (hS : ∀ b, S b → b < w.heap.size) (h : RQ S w W n0 n1 n2 n3 k T c2 (.slice none 0 0) []) : RQ S w (W.setCell ⟨w.heap.size + 2, 1, none⟩ (.string T')) n0 n1 n2 n3 k T' c2 (.slice none 0 0) [] := by
 obtain ⟨h1, h2, h3, h4, -⟩ := h
 refine ⟨h1.setCell (p := ⟨w.heap.size + 2, 1, none⟩) (by show w.heap.size ≤ w.heap.size + 2; omega) _, (set_oth _ _ _ _ (by show w.heap.size ≠ w.heap.size + 2; omega)).trans h2, (set_oth _ _ _ _ (by show w.heap.size + 1 ≠ w.heap.size + 2; omega)).trans h3, Lib.heap_setCell_same (i := 1) h4 _, [], ⟨rfl, .inl ⟨rfl, rfl⟩⟩, rfl, fun j h => absurd h (Nat.not_lt_zero _)⟩
theorem RQ.kid (hS : ∀ b, S b → b < w.heap.size) (h : RQ S w W0 n0 n1 n2 n3 k T c2 s8 M) (hb : Below W0.heap.size W0 W1) {q : Q4} {e : Nd} (qs : List Q4) (hko : KO (OwnY S w W0 s8) (w.heap.size + 3) W0 s8 qs M) (ho : W2.ownsRow (w.heap.size + 3) 25 4 s' (M.length + 1) (flat4 qs ++ [q.a, q.b, q.c, q.d])) (hg : W1.grownBy W2 s8.ownBlock) (hk : s'.ownBlock = s8.ownBlock ∨ s'.ownBlock = some W1.heap.size)
  (hwr : ∀ b, s8.ownBlock = some b → b < wr.heap.size) (hwo : w.heap.size + 3 ≤ wr.heap.size) (he : NdC (New S wr W0) W0 e q.a q.b q.c q.d) :
  RQ S w (W2.setCell ⟨w.heap.size + 2, 3, none⟩ s') n0 n1 n2 n3 k T c2 s' (M ++ [e]) := by
 have hlt := h.size
 obtain ⟨h1, h2, h3, h4, -⟩ := h
 have hs := hb.size
 have h41 := owns_below hko.1 hb
 have hb2 : Below (w.heap.size + 3) W0 W2 := (hb.mono (by omega)).grown hg (by omega) fun k hk => (h41.lt k hk).1
 have hset : ∀ b, b ≠ w.heap.size + 2 → (W2.setCell ⟨w.heap.size + 2, 3, none⟩ s').heap[b]? = W2.heap[b]? := fun b hb => set_oth _ _ _ _ hb
 have hz : (W2.setCell ⟨w.heap.size + 2, 3, none⟩ s').heap.size = W2.heap.size := by simp [World.setCell]
 have hkeep : ∀ b, OwnY S w W0 s8 b → OwnY S w (W2.setCell ⟨w.heap.size + 2, 3, none⟩ s') s' b ∧ (W2.setCell ⟨w.heap.size + 2, 3, none⟩ s').heap[b]? = W0.heap[b]? := by
  intro b hx
  rcases hx with hx | ⟨a1, a2, a4⟩
  ·have := hS b hx
   exact ⟨.inl hx, (hset b (by omega)).trans (hb2.block b (by omega))⟩
  ·refine ⟨.inr ⟨a1, by rw [hz]; exact Nat.lt_of_lt_of_le a2 hb2.size, fun e => ?_⟩, (hset b (by omega)).trans ((hg.block b (by omega) fun e => a4 e.symm).trans (hb.block b a2))⟩
   rcases hk with hk | hk
   ·exact a4 (hk.symm.trans e)
   ·rw [hk] at e; injection e with e; omega
 refine ⟨(h1.trans (hb2.mono (by omega))).setCell (p := ⟨w.heap.size + 2, 3, none⟩) (by show w.heap.size ≤ w.heap.size + 2; omega) _, (hset _ (by omega)).trans ((hb2.block _ (by omega)).trans h2), (hset _ (by omega)).trans ((hb2.block _ (by omega)).trans h3), ?_, qs ++ [q], ?_, by rw [List.length_append, List.length_append, hko.2.1]; rfl, fun j hj gj => ?_⟩
 ·have h22 : Row4 W2 (w.heap.size + 2) 25 (.int .i64 k) (.string T) c2 s8 := (hb2.block _ (by omega)).trans h4
  exact Lib.heap_setCell_same (i := 3) h22 s'
 ·have e2 : flat4 (qs ++ [q]) = flat4 qs ++ [q.a, q.b, q.c, q.d] := by rw [flat4_app]; rfl
  rw [e2, show (M ++ [e]).length = M.length + 1 by simp]
  exact owns_keep ho fun g hg' => hset g (by have := (ho.lt g hg').1; omega)
 ·have hl := hko.2.1
  by_cases hjl : j < qs.length
  ·rw [List.getElem_append_left hjl, List.getElem_append_left (by omega)]
   exact NdC.keep hkeep _ (hko.2.2 j hjl (by omega))
  ·rw [List.getElem_append_right (by omega), List.getElem_append_right (by omega)]
   have e1 : j - qs.length = 0 := by simp at hj; omega
   have e2 : j - M.length = 0 := by omega
   simp only [e1, e2, List.getElem_cons_zero]
   refine NdC.keep (fun b hb' => hkeep b ?_) _ he
   rcases hb' with hb' | ⟨b1, b2⟩
   ·exact .inl hb'
   ·exact .inr ⟨by omega, b2, fun e => by have := hwr b e; omega⟩
end
def GivesN14 (S : Nat → Prop) (R : NR) (w : World) (e : Ending) (w' : World) : Prop := match R with
 | .ok d' => ∃ u0 u1 u2 u3, e = .returned (.tuple #[.agg #[u0, u1, u2, u3], .int .i64 0]) ∧ NdC (New S w w') w' d' u0 u1 u2 u3 ∧ Below w.heap.size w w'
 | .err er => e = .returned (.tuple #[.agg #[.int .i64 0, .string ⟨#[]⟩, .slice none 0 0, .slice none 0 0], .int .i64 er]) ∧ Below w.heap.size w w'
def put4n (w : World) (B : Nat) (a b c d : Value) : World := (((w.setCell ⟨B, 0, none⟩ a).setCell ⟨B, 1, none⟩ b).setCell ⟨B, 2, none⟩ c).setCell ⟨B, 3, none⟩ d
theorem put4n_oth (w : World) (B : Nat) (a b c d : Value) (k : Nat) (hk : k ≠ B) : (put4n w B a b c d).heap[k]? = w.heap[k]? := by
 unfold put4n
 rw [set_oth _ _ _ _ (by exact hk), set_oth _ _ _ _ (by exact hk), set_oth _ _ _ _ (by exact hk), set_oth _ _ _ _ (by exact hk)]
theorem put4n_size (w : World) (B : Nat) (a b c d : Value) : (put4n w B a b c d).heap.size = w.heap.size := by
 unfold put4n; simp [World.setCell]
theorem put4n_below {w W : World} {B H : Nat} (h : Below H w W) (hB : H ≤ B) (a b c d : Value) : Below H w (put4n W B a b c d) :=
 (((h.setCell (p := ⟨B, 0, none⟩) hB _).setCell (p := ⟨B, 1, none⟩) hB _).setCell (p := ⟨B, 2, none⟩) hB _).setCell (p := ⟨B, 3, none⟩) hB _
theorem texts_kid {k : Int} {t : L8} {ks : List L8} {ds : List Nd} {P : L8 → Prop} (h : ∀ x ∈ N8.textsT (.mk k t ks ds), P x) (j : Nat) (hj : j < ds.length) : ∀ x ∈ N8.textsT (ds[j]'hj), P x := by
 intro x hx
 refine h x ?_
 rw [N8.textsT]
 refine List.mem_append_right _ ?_
 have : ∀ (l : List Nd) (d : Nd), d ∈ l → x ∈ N8.textsT d → x ∈ N8.textsL l := by
  intro l d hd hx
  induction l with
  | nil => cases hd
  | cons y l ih =>
   rw [N8.textsL]
   rcases List.mem_cons.1 hd with rfl | hd
   ·exact List.mem_append_left _ hx
   ·exact List.mem_append_right _ (ih hd)
 exact this ds _ (List.getElem_mem hj) hx
theorem RNode14 (l : List KV) (HTx : ∀ (s : ByteArray) (v : Value) (W : World), s.size ≤ 100000 → VR W v l → Calls Tryz.prog 20 #[.string s, v] W (SayW (sayX (lastV l) s.data.toList) W)) (N : Nat) :
  ∀ (d : Nd), N8.cntT d ≤ N → N8.cntT d ≤ 100000 → (∀ t ∈ N8.textsT d, t.length ≤ 100000) → ∀ (S : Nat → Prop) (c0 c1 c2 c3 v : Value) (w : World), (∀ b, S b → b < w.heap.size) → NdC S w d c0 c1 c2 c3 → VR w v l →
  Calls Tryz.prog 9 #[.agg #[c0, c1, c2, c3], v] w (GivesN14 S (sayN (lastV l) d) w) := by
 obtain ⟨i0, hi, hz0, hz1, hz2⟩ := infoN
 induction N with
 | zero => intro d h; have := N8.cntT_pos d; omega
 | succ N ih =>
  intro d hN hbig htx S c0 c1 c2 c3 v w hS hd hv
  cases d with
  | mk k t ks ds =>
   have HIH := hid ih
   have HTE := hid htx
   have HS := hid hS
   have HD := hid hd
   have HV := hid hv
   rw [N8.cntT] at hN hbig
   have HCN := hid (And.intro (show N8.cntL ds ≤ N by omega) (show N8.cntL ds ≤ 99999 by omega))
   obtain ⟨ck, cs, ca, cn, cc, cA, cm, cq, e0, e1, e2, e3⟩ := hd.cellsOk
   subst e0; subst e1; subst e2; subst e3
   have hd' := hd
   rw [NdC] at hd'
   obtain ⟨h0, h1, hks, A, cap, h3, hcap, hcm, -, hnk⟩ := hd'
   injection h0 with _ h0
   subst h0
   injection h1 with h1
   injection h3 with h3a h3b h3c
   subst h3a; subst h3b; subst h3c
   have HKS := hid hks
   have HNK := hid hnk
   have HTT : Hid (cs.data.toList = t) := hid (by rw [h1, ba_data])
   obtain ⟨n, hn⟩ : ∃ n, ds.length = n := ⟨_, rfl⟩
   have HNN := hid hn
   have hnl : n ≤ 100000 := by have := N8.cntL_len ds; omega
   unfold maxLen at hcm
   rw [hn] at hcap HD ⊢
   have hQ0 := RQ.make S w (.int .i64 ck) (.string cs) (.slice ca cn cc) (.slice cA n cq) ck (.slice ca cn cc)
   obtain ⟨W3, hW3⟩ : ∃ W3, (((w.alloc (.cells #[.int .i64 ck, .string cs, .slice ca cn cc, .slice cA n cq] 25)).alloc (.cells #[.int .i64 0, .string ⟨#[]⟩, .slice none 0 0, .slice none 0 0] 25)).alloc (.cells #[.int .i64 ck, .string ⟨#[]⟩, .slice ca cn cc, .slice none 0 0] 25)) = W3 := ⟨_, rfl⟩
   rw [hW3] at hQ0
   have HQ0 := hid hQ0
   obtain ⟨R, hR⟩ : ∃ R, sayN (lastV l) (.mk ck t ks ds) = R := ⟨_, rfl⟩
   rw [hR]
   have HRE : Hid (R = headN ck ks (sayNs (lastV l) ds) (if ck = 1 then sayX (lastV l) t else SR.ok [])) := hid (by rw [← hR, sayN_eq])
   obtain ⟨x0, x1, x2, x3⟩ := hQ0.2.1.cells
   clear ih hN hbig htx hS hd hv hks hnk h1 hn hR hQ0
   by_cases hk1 : ck = 1
   ·subst hk1
    have HRX0 : Hid (R = headN 1 ks (sayNs (lastV l) ds) (sayX (lastV l) t)) := hid (by rw [HRE.out, if_pos rfl])
    have hcs : cs.size ≤ 100000 := by
     have h1 : t ∈ N8.textsT (.mk 1 t ks ds) := by rw [N8.textsT, if_pos rfl]; exact List.mem_append_left _ (List.mem_singleton.2 rfl)
     have h2 := HTE.out t h1
     rw [← HTT.out] at h2
     exact h2
    have hT := HTx cs v W3 hcs (HV.out.below HQ0.out.1)
    rw [HTT.out] at hT
    cases hx : sayX (lastV l) t with
    | err er kk yy =>
     have hne : (er != 0) = true := bne_iff_ne.2 (sayX_ne hx)
     rw [hx] at hT HRX0
     have HT : Hid (Calls Tryz.prog 20 #[.string cs, v] W3 fun e w' => e = .returned (.agg #[.string ⟨#[]⟩, .string (ba kk), .string (ba yy), .int .i64 er]) ∧ Below W3.heap.size W3 w') := hid hT
     generalize ba kk = Kk at HT
     generalize ba yy = Yy at HT
     clear hT hx hcs HRE
     subst hW3
     go_enter Tryz.func9, Tryz.ntmps9
     go_upto_region 5 with (go_at_call 20; refine HT.out.mono ?_; rintro e W4 ⟨rfl, hb4⟩; have hQ4 := (HQ0.out.go HS.out hb4).go HS.out ((Below.refl _ _).alloc (Nat.le_refl _) (.cells #[.string ⟨#[]⟩, .string Kk, .string Yy, .int .i64 er] 47)); have HQ4 := hid hQ4; obtain ⟨z0, z1, z2, z3⟩ := hQ4.2.2.1.cells; obtain ⟨f0, f1, f2, f3⟩ := hQ4.2.2.1.frozen; obtain ⟨s0, s1, s2, s3⟩ := (Row4.make W4 47 (.string ⟨#[]⟩) (.string Kk) (.string Yy) (.int .i64 er)).cells; have hz9 := (HQ0.out.go HS.out hb4).size; have hz7 : ¬ w.heap.size + 1 = W4.heap.size := (by omega); have hz8 : ¬ W4.heap.size = w.heap.size + 1 := (by omega); clear hz9 hb4 hQ4)
     go_wp2
     go_region
     all_goals
      go_wp2
      refine bodyPost_ret (v := .tuple #[.agg #[.int .i64 0, .string ⟨#[]⟩, .slice none 0 0, .slice none 0 0], .int .i64 er]) (by simp [results, Tryz.results9, go_sem, z0, z1, z2, z3]) rfl ?_
      rw [HRX0.out]
      have hF := put4n_below HQ4.out.1 (Nat.le_succ w.heap.size) (.int .i64 0) (.string ⟨#[]⟩) (.slice none 0 0) (.slice none 0 0)
      exact ⟨rfl, ⟨hF.os, hF.tape, hF.output, hF.size, hF.block⟩⟩
    | ok TT =>
     rw [hx] at hT HRX0
     obtain ⟨X, hX⟩ : ∃ X, ba TT = X := ⟨_, rfl⟩
     have HXT : Hid (X.data.toList = TT) := hid (by rw [← hX, ba_data])
     have HT : Hid (Calls Tryz.prog 20 #[.string cs, v] W3 fun e w' => e = .returned (.agg #[.string X, .string ⟨#[]⟩, .string ⟨#[]⟩, .int .i64 0]) ∧ Below W3.heap.size W3 w') := hid (by rw [← hX]; exact hT)
     have HRX : Hid (R = endN 1 TT ks (sayNs (lastV l) ds)) := hid (by rw [HRX0.out]; rfl)
     clear hT hx hcs HRE HRX0 hX
     subst hW3
     go_enter Tryz.func9, Tryz.ntmps9
     go_upto_region 7 with (go_at_call 20; refine HT.out.mono ?_; rintro e W4 ⟨rfl, hb4⟩; have hQ4 := (HQ0.out.go HS.out hb4).go HS.out ((Below.refl _ _).alloc (Nat.le_refl _) (.cells #[.string X, .string ⟨#[]⟩, .string ⟨#[]⟩, .int .i64 0] 47)); have HQX : Hid (RQ S w ((W4.alloc (.cells #[.string X, .string ⟨#[]⟩, .string ⟨#[]⟩, .int .i64 0] 47)).setCell ⟨w.heap.size + 2, 1, none⟩ (.string X)) _ _ _ _ _ X _ _ _) := hid (hQ4.text HS.out); obtain ⟨z0, z1, z2, z3⟩ := hQ4.2.2.2.1.cells; obtain ⟨f0, f1, f2, f3⟩ := hQ4.2.2.2.1.frozen; obtain ⟨s0, s1, s2, s3⟩ := (Row4.make W4 47 (.string X) (.string ⟨#[]⟩) (.string ⟨#[]⟩) (.int .i64 0)).cells; clear hb4 hQ4)
     clear x0 x1 x2 x3
     go_wp2
     obtain ⟨RS, hRS⟩ : ∃ RS, sayNs (lastV l) ds = RS := ⟨_, rfl⟩
     have HRS0 : Hid (thenN [] (sayNs (lastV l) (ds.drop 0)) = RS) := hid (by rw [List.drop_zero, thenN_nil]; exact hRS)
     have HRR : Hid (R = endN 1 TT ks RS) := hid (by rw [HRX.out, hRS])
     clear hRS HRX
     go_loopw [8] (fun si wr => ∃ (j : Nat) (M : List Nd) (s8 : Value), j ≤ n ∧ M.length = j ∧ si = .int .i64 (j : Int) ∧ Hid (thenN M (sayNs (lastV l) (ds.drop j)) = RS) ∧ Hid (RQ S w wr (.int .i64 1) (.string cs) (.slice ca cn cc) (.slice cA n cq) 1 X (.slice ca cn cc) s8 M)) (fun si _ => n - (intOf si).toNat)
     case atStart => exact ⟨0, [], _, Nat.zero_le _, rfl, rfl, HRS0, HQX⟩
     case round =>
      clear HRS0 HQX
      obtain ⟨j, M, s8, hj, hMj, rfl, HTN, HQ⟩ := hrel
      obtain ⟨x0, x1, x2, x3⟩ := HQ.out.2.1.cells
      obtain ⟨z0, z1, z2, z3⟩ := HQ.out.2.2.1.cells
      obtain ⟨f0, f1, f2, f3⟩ := HQ.out.2.2.1.frozen
      obtain ⟨y0, y1, y2, y3⟩ := HQ.out.2.2.2.1.cells
      by_cases hlt : j < n
      ·have hjl : j < ds.length := by rw [HNN.out]; exact hlt
       have hjz : (j : Int) < (n : Int) := by omega
       have hjc : (j : Int) < (cq : Int) := by omega
       have hk := NdK.at_ HNK.out j hjl
       rw [Nat.zero_add] at hk
       obtain ⟨b, o, e0, e1, e2, e3, hA, hSb, q0, q1, q2, q3, hkd⟩ := hk
       subst hA
       have hbl := HS.out b hSb
       have r0 := (HQ.out.1.cell (p := ⟨b, o + j * 4, none⟩) hbl).trans q0
       have r1 := (HQ.out.1.cell (p := ⟨b, o + j * 4 + 1, none⟩) hbl).trans q1
       have r2 := (HQ.out.1.cell (p := ⟨b, o + j * 4 + 2, none⟩) hbl).trans q2
       have r3 := (HQ.out.1.cell (p := ⟨b, o + j * 4 + 3, none⟩) hbl).trans q3
       obtain ⟨gk, gs, ga, gn, gc, gA, gm, gq, rfl, rfl, rfl, rfl⟩ := hkd.cellsOk
       have hsz := HQ.out.size
       have hkd2 : NdC S wr (ds[j]'hjl) (.int .i64 gk) (.string gs) (.slice ga gn gc) (.slice gA gm gq) := NdC.keep (fun b hb => ⟨hb, HQ.out.1.block b (HS.out b hb)⟩) _ hkd
       have hck : N8.cntT (ds[j]'hjl) ≤ N8.cntL ds := N8.cntL_mem (List.getElem_mem hjl)
       have hN1 := HIH.out (ds[j]'hjl) (Nat.le_trans hck HCN.out.1) (by have := HCN.out.2; omega) (texts_kid HTE.out j hjl) S _ _ _ _ v wr (fun b hb => by have := HS.out b hb; omega) hkd2 (HV.out.below HQ.out.1)
       have hst := thenN_step (lastV l) M ds j hjl
       rw [HTN.out] at hst
       cases hkr : sayN (lastV l) (ds[j]'hjl) with
       | err er =>
        have hne : (er != 0) = true := bne_iff_ne.2 (sayN_ne _ hkr)
        rw [hkr] at hN1 hst
        have HN1 := hid hN1
        have HST : Hid (RS = .err er) := hid hst
        clear hkr hN1 hst hck hkd hkd2 q0 q1 q2 q3
        go_wp2_with (go_at_call 9; refine HN1.out.mono ?_; rintro e W5 ⟨rfl, hb5⟩; have HQ5 := hid (HQ.out.go HS.out hb5); have hQ6 := HQ5.out.go HS.out ((Below.refl _ _).alloc (Nat.le_refl _) (.cells #[.int .i64 0, .string ⟨#[]⟩, .slice none 0 0, .slice none 0 0] 25)); clear z0 z1 z2 z3 f0 f1 f2 f3 y0 y1 y2 y3 x0 x1 x2 x3; obtain ⟨z0, z1, z2, z3⟩ := hQ6.2.2.1.cells; obtain ⟨f0, f1, f2, f3⟩ := hQ6.2.2.1.frozen; have HQ6 := hid hQ6; clear hb5 hQ6)
        refine bodyPost_ret (v := .tuple #[.agg #[.int .i64 0, .string ⟨#[]⟩, .slice none 0 0, .slice none 0 0], .int .i64 er]) (by simp [results, Tryz.results9, go_sem, z0, z1, z2, z3]) rfl ?_
        rw [HRR.out, HST.out]
        exact ⟨rfl, put4n_below HQ6.out.1 (Nat.le_succ _) _ _ _ _⟩
       | ok d' =>
        rw [hkr] at hN1 hst
        have HN1 := hid hN1
        have HST : Hid (thenN (M ++ [d']) (sayNs (lastV l) (ds.drop (j + 1))) = RS) := hid hst.symm
        have HSZ := hid hsz
        clear hkr hN1 hst hck hkd hkd2 q0 q1 q2 q3 y0 y1 y2 y3
        go_wp2_with first
         | (go_at_call 9; refine HN1.out.mono ?_; rintro e W5 ⟨u0, u1, u2, u3, rfl, hnd, hb5⟩; obtain ⟨vk, vs, va, vn, vc, vA, vm, vq, rfl, rfl, rfl, rfl⟩ := hnd.cellsOk; have HND := hid hnd; have hQ5 := HQ.out.go HS.out hb5; have HQ5 := hid hQ5; have hbA : Below W5.heap.size W5 (W5.alloc (.cells #[.int .i64 vk, .string vs, .slice va vn vc, .slice vA vm vq] 25)) := (Below.refl _ _).alloc (Nat.le_refl _) _; have HBA := hid hbA; have hQ6 := hQ5.go HS.out hbA; obtain ⟨y0, y1, y2, y3⟩ := hQ6.2.2.2.1.cells; have HQ6 := hid hQ6; obtain ⟨qs5, hko5⟩ := hQ5.2.2.2.2; have HKO5 := hid hko5; have hko6 := RQ.goK HS.out hQ5.size hko5 hbA; have HOW6 : Hid ((W5.alloc (.cells #[.int .i64 vk, .string vs, .slice va vn vc, .slice vA vm vq] 25)).ownsRow (w.heap.size + 3) 25 4 s8 j (flat4 qs5)) := hid (by rw [← hMj]; exact hko6.1); obtain ⟨t0, t1, t2, t3⟩ := (Row4.make W5 25 (.int .i64 vk) (.string vs) (.slice va vn vc) (.slice vA vm vq)).cells; have hs6 := hQ6.size; have HB5 := hid hb5; clear hnd hQ5 hbA hQ6 hko5 hko6 hb5)
         | (at_builtin; refine wpList_append_own_at _ rfl _ _ 23 rfl (w.heap.size + 3) 25 i0 _ 4 72 Tryz.underlying23 hi hz0 hz1 hz2 rfl (by decide) s8 j (flat4 qs5) rfl (HOW6.out.alloc _) _ 1 1 [.int .i64 vk, .string vs, .slice va vn vc, .slice vA vm vq] rfl rfl (news_blk #[.int .i64 vk, .string vs, .slice va vn vc, .slice vA vm vq] (by first | exact alloc_at _ _ | exact alloc_at1 _ _ _)) (four_nd _ _ _ _ _ _ _ _) (by unfold maxLen; omega) (by omega) (by simp at hs6 ⊢; omega) ?_; intro s9 W9 ho9 hg9 hn9 hk9; obtain ⟨a9, c9, rfl⟩ := own_shape ho9; have hr9 : Row4 W9 (w.heap.size + 2) 25 (.int .i64 1) (.string X) (.slice ca cn cc) s8 := ((hg9.block _ (by simp at hs6 ⊢; omega) fun e => by have := (HOW6.out.lt _ e.symm).1; omega).trans (Below.heap_alloc _ _ _ (by simp at hs6 ⊢; omega))).trans HQ6.out.2.2.2.1; obtain ⟨m0, m1, m2, m3⟩ := hr9.cells; obtain ⟨j0, j1, j2, j3⟩ := hr9.frozen; have HO9 := hid ho9; have HG9 := hid hg9; have HK9 := hid hk9; clear ho9 hg9 hn9 hk9 hr9)
        have HQ9 := hid (HQ5.out.kid HS.out (q := ⟨.int .i64 vk, .string vs, .slice va vn vc, .slice vA vm vq⟩) (HBA.out.alloc HBA.out.size (.cells #[.int .i64 vk, .string vs, .slice va vn vc, .slice vA vm vq] 25)) qs5 HKO5.out (by rw [hMj]; exact HO9.out) HG9.out HK9.out (wr := wr) (fun b hb => by obtain ⟨qq, hqq⟩ := HQ.out.2.2.2.2; exact (hqq.1.lt b hb).2) HSZ.out HND.out)
        go_roundw
        case rel => exact ⟨j + 1, M ++ [d'], _, by omega, by rw [List.length_append, hMj]; rfl, by go_num, HST, HQ9⟩
        case measure => simp [intOf]; omega
      ·obtain rfl : j = n := by omega
       have HEND : Hid (RS = .ok M) := hid (by rw [← HTN.out]; exact thenN_end _ _ _ _ (by rw [HNN.out]; exact Nat.le_refl _))
       obtain ⟨a8, c8, hs8⟩ : ∃ a8 c8, s8 = .slice a8 j c8 := by
        obtain ⟨qq, hqq⟩ := HQ.out.2.2.2.2
        obtain ⟨a, c, h⟩ := own_shape hqq.1
        exact ⟨a, c, by rw [h, hMj]⟩
       subst hs8
       go_wp2
       refine bodyPost_ret (v := .tuple #[.agg #[.int .i64 1, .string X, .slice ca cn cc, .slice a8 j c8], .int .i64 0]) (by simp [results, Tryz.results9, go_sem, z0, z1, z2, z3]) rfl ?_
       rw [HRR.out, HEND.out]
       have hsz := HQ.out.size
       obtain ⟨qq, hqq⟩ := HQ.out.2.2.2.2
       have hkd : KdS (New S w wr) wr (.slice a8 j c8) M := hqq.kdS (fun b hb => hb.imp id fun h => ⟨by omega, h.2.1⟩) fun b hb => .inr ⟨by have := (hqq.1.lt b hb).1; omega, (hqq.1.lt b hb).2⟩
       have hkeep : ∀ b, New S w wr b → b ≠ w.heap.size + 1 → New S w (put4n wr (w.heap.size + 1) (.int .i64 1) (.string X) (.slice ca cn cc) (.slice a8 j c8)) b ∧ (put4n wr (w.heap.size + 1) (.int .i64 1) (.string X) (.slice ca cn cc) (.slice a8 j c8)).heap[b]? = wr.heap[b]? := fun b hb hne =>
        ⟨hb.imp id fun h => ⟨h.1, by rw [put4n_size]; exact h.2⟩, put4n_oth _ _ _ _ _ _ b hne⟩
       have hfin : KdS (New S w (put4n wr (w.heap.size + 1) (.int .i64 1) (.string X) (.slice ca cn cc) (.slice a8 j c8))) (put4n wr (w.heap.size + 1) (.int .i64 1) (.string X) (.slice ca cn cc) (.slice a8 j c8)) (.slice a8 j c8) M := by
        have h1 : KO (OwnY S w wr (.slice a8 j c8)) (w.heap.size + 3) (put4n wr (w.heap.size + 1) (.int .i64 1) (.string X) (.slice ca cn cc) (.slice a8 j c8)) (.slice a8 j c8) qq M := hqq.keep (fun b hb => ⟨hb, put4n_oth _ _ _ _ _ _ b (by rcases hb with h | h; have := HS.out b h; omega; have := h.1; omega)⟩) fun b hb => put4n_oth _ _ _ _ _ _ b (by have := (hqq.1.lt b hb).1; omega)
        exact h1.kdS (fun b hb => hb.imp id fun h => ⟨by omega, by rw [put4n_size]; exact h.2.1⟩) fun b hb => .inr ⟨by have := (hqq.1.lt b hb).1; omega, by rw [put4n_size]; exact (hqq.1.lt b hb).2⟩
       obtain ⟨A9, cap9, hA9, hc9, hm9, hn9, hk9⟩ := hfin
       refine ⟨_, _, _, _, rfl, ?_, put4n_below HQ.out.1 (Nat.le_succ _) _ _ _ _⟩
       rw [NdC]
       refine ⟨rfl, by rw [← HXT.out, ba_of], HKS.out.keep fun b hb => ⟨.inl hb, (put4n_oth _ _ _ _ _ _ b (by have := HS.out b hb; omega)).trans (HQ.out.1.block b (HS.out b hb))⟩, A9, cap9, hA9, hc9, hm9, hn9, hk9⟩
   ·have hk2 : (ck == 1) = false := beq_eq_false_iff_ne.2 hk1
    obtain ⟨TT, hTT⟩ : ∃ TT : L8, TT = [] := ⟨_, rfl⟩
    have HRX : Hid (R = endN ck TT ks (sayNs (lastV l) ds)) := hid (by rw [HRE.out, if_neg hk1, hTT]; rfl)
    obtain ⟨X, hX⟩ : ∃ X : ByteArray, X = ⟨#[]⟩ := ⟨_, rfl⟩
    have HXT : Hid (X.data.toList = TT) := hid (by rw [hX, hTT])
    have HQX : Hid (RQ S w W3 (.int .i64 ck) (.string cs) (.slice ca cn cc) (.slice cA n cq) ck X (.slice ca cn cc) (.slice none 0 0) []) := hid (by rw [hX]; exact HQ0.out)
    clear HRE hk1 HTT hTT hX
    subst hW3
    go_enter Tryz.func9, Tryz.ntmps9
    go_upto_region 7 with fail
    clear x0 x1 x2 x3
    go_wp2
    obtain ⟨RS, hRS⟩ : ∃ RS, sayNs (lastV l) ds = RS := ⟨_, rfl⟩
    have HRS0 : Hid (thenN [] (sayNs (lastV l) (ds.drop 0)) = RS) := hid (by rw [List.drop_zero, thenN_nil]; exact hRS)
    have HRR : Hid (R = endN ck TT ks RS) := hid (by rw [HRX.out, hRS])
    clear hRS HRX
    go_loopw [8] (fun si wr => ∃ (j : Nat) (M : List Nd) (s8 : Value), j ≤ n ∧ M.length = j ∧ si = .int .i64 (j : Int) ∧ Hid (thenN M (sayNs (lastV l) (ds.drop j)) = RS) ∧ Hid (RQ S w wr (.int .i64 ck) (.string cs) (.slice ca cn cc) (.slice cA n cq) ck X (.slice ca cn cc) s8 M)) (fun si _ => n - (intOf si).toNat)
    case atStart => exact ⟨0, [], _, Nat.zero_le _, rfl, rfl, HRS0, HQX⟩
    case round =>
     clear HRS0 HQX
     obtain ⟨j, M, s8, hj, hMj, rfl, HTN, HQ⟩ := hrel
     obtain ⟨x0, x1, x2, x3⟩ := HQ.out.2.1.cells
     obtain ⟨z0, z1, z2, z3⟩ := HQ.out.2.2.1.cells
     obtain ⟨f0, f1, f2, f3⟩ := HQ.out.2.2.1.frozen
     obtain ⟨y0, y1, y2, y3⟩ := HQ.out.2.2.2.1.cells
     by_cases hlt : j < n
     ·have hjl : j < ds.length := by rw [HNN.out]; exact hlt
      have hjz : (j : Int) < (n : Int) := by omega
      have hjc : (j : Int) < (cq : Int) := by omega
      have hk := NdK.at_ HNK.out j hjl
      rw [Nat.zero_add] at hk
      obtain ⟨b, o, e0, e1, e2, e3, hA, hSb, q0, q1, q2, q3, hkd⟩ := hk
      subst hA
      have hbl := HS.out b hSb
      have r0 := (HQ.out.1.cell (p := ⟨b, o + j * 4, none⟩) hbl).trans q0
      have r1 := (HQ.out.1.cell (p := ⟨b, o + j * 4 + 1, none⟩) hbl).trans q1
      have r2 := (HQ.out.1.cell (p := ⟨b, o + j * 4 + 2, none⟩) hbl).trans q2
      have r3 := (HQ.out.1.cell (p := ⟨b, o + j * 4 + 3, none⟩) hbl).trans q3
      obtain ⟨gk, gs, ga, gn, gc, gA, gm, gq, rfl, rfl, rfl, rfl⟩ := hkd.cellsOk
      have hsz := HQ.out.size
      have hkd2 : NdC S wr (ds[j]'hjl) (.int .i64 gk) (.string gs) (.slice ga gn gc) (.slice gA gm gq) := NdC.keep (fun b hb => ⟨hb, HQ.out.1.block b (HS.out b hb)⟩) _ hkd
      have hck : N8.cntT (ds[j]'hjl) ≤ N8.cntL ds := N8.cntL_mem (List.getElem_mem hjl)
      have hN1 := HIH.out (ds[j]'hjl) (Nat.le_trans hck HCN.out.1) (by have := HCN.out.2; omega) (texts_kid HTE.out j hjl) S _ _ _ _ v wr (fun b hb => by have := HS.out b hb; omega) hkd2 (HV.out.below HQ.out.1)
      have hst := thenN_step (lastV l) M ds j hjl
      rw [HTN.out] at hst
      cases hkr : sayN (lastV l) (ds[j]'hjl) with
      | err er =>
       have hne : (er != 0) = true := bne_iff_ne.2 (sayN_ne _ hkr)
       rw [hkr] at hN1 hst
       have HN1 := hid hN1
       have HST : Hid (RS = .err er) := hid hst
       clear hkr hN1 hst hck hkd hkd2 q0 q1 q2 q3
       go_wp2_with (go_at_call 9; refine HN1.out.mono ?_; rintro e W5 ⟨rfl, hb5⟩; have HQ5 := hid (HQ.out.go HS.out hb5); have hQ6 := HQ5.out.go HS.out ((Below.refl _ _).alloc (Nat.le_refl _) (.cells #[.int .i64 0, .string ⟨#[]⟩, .slice none 0 0, .slice none 0 0] 25)); clear z0 z1 z2 z3 f0 f1 f2 f3 y0 y1 y2 y3 x0 x1 x2 x3; obtain ⟨z0, z1, z2, z3⟩ := hQ6.2.2.1.cells; obtain ⟨f0, f1, f2, f3⟩ := hQ6.2.2.1.frozen; have HQ6 := hid hQ6; clear hb5 hQ6)
       refine bodyPost_ret (v := .tuple #[.agg #[.int .i64 0, .string ⟨#[]⟩, .slice none 0 0, .slice none 0 0], .int .i64 er]) (by simp [results, Tryz.results9, go_sem, z0, z1, z2, z3]) rfl ?_
       rw [HRR.out, HST.out]
       exact ⟨rfl, put4n_below HQ6.out.1 (Nat.le_succ _) _ _ _ _⟩
      | ok d' =>
       rw [hkr] at hN1 hst
       have HN1 := hid hN1
       have HST : Hid (thenN (M ++ [d']) (sayNs (lastV l) (ds.drop (j + 1))) = RS) := hid hst.symm
       have HSZ := hid hsz
       clear hkr hN1 hst hck hkd hkd2 q0 q1 q2 q3 y0 y1 y2 y3
       go_wp2_with first
        | (go_at_call 9; refine HN1.out.mono ?_; rintro e W5 ⟨u0, u1, u2, u3, rfl, hnd, hb5⟩; obtain ⟨vk, vs, va, vn, vc, vA, vm, vq, rfl, rfl, rfl, rfl⟩ := hnd.cellsOk; have HND := hid hnd; have hQ5 := HQ.out.go HS.out hb5; have HQ5 := hid hQ5; have hbA : Below W5.heap.size W5 (W5.alloc (.cells #[.int .i64 vk, .string vs, .slice va vn vc, .slice vA vm vq] 25)) := (Below.refl _ _).alloc (Nat.le_refl _) _; have HBA := hid hbA; have hQ6 := hQ5.go HS.out hbA; obtain ⟨y0, y1, y2, y3⟩ := hQ6.2.2.2.1.cells; have HQ6 := hid hQ6; obtain ⟨qs5, hko5⟩ := hQ5.2.2.2.2; have HKO5 := hid hko5; have hko6 := RQ.goK HS.out hQ5.size hko5 hbA; have HOW6 : Hid ((W5.alloc (.cells #[.int .i64 vk, .string vs, .slice va vn vc, .slice vA vm vq] 25)).ownsRow (w.heap.size + 3) 25 4 s8 j (flat4 qs5)) := hid (by rw [← hMj]; exact hko6.1); obtain ⟨t0, t1, t2, t3⟩ := (Row4.make W5 25 (.int .i64 vk) (.string vs) (.slice va vn vc) (.slice vA vm vq)).cells; have hs6 := hQ6.size; have HB5 := hid hb5; clear hnd hQ5 hbA hQ6 hko5 hko6 hb5)
        | (at_builtin; refine wpList_append_own_at _ rfl _ _ 23 rfl (w.heap.size + 3) 25 i0 _ 4 72 Tryz.underlying23 hi hz0 hz1 hz2 rfl (by decide) s8 j (flat4 qs5) rfl (HOW6.out.alloc _) _ 1 1 [.int .i64 vk, .string vs, .slice va vn vc, .slice vA vm vq] rfl rfl (news_blk #[.int .i64 vk, .string vs, .slice va vn vc, .slice vA vm vq] (by first | exact alloc_at _ _ | exact alloc_at1 _ _ _)) (four_nd _ _ _ _ _ _ _ _) (by unfold maxLen; omega) (by omega) (by simp at hs6 ⊢; omega) ?_; intro s9 W9 ho9 hg9 hn9 hk9; obtain ⟨a9, c9, rfl⟩ := own_shape ho9; have hr9 : Row4 W9 (w.heap.size + 2) 25 (.int .i64 ck) (.string X) (.slice ca cn cc) s8 := ((hg9.block _ (by simp at hs6 ⊢; omega) fun e => by have := (HOW6.out.lt _ e.symm).1; omega).trans (Below.heap_alloc _ _ _ (by simp at hs6 ⊢; omega))).trans HQ6.out.2.2.2.1; obtain ⟨m0, m1, m2, m3⟩ := hr9.cells; obtain ⟨j0, j1, j2, j3⟩ := hr9.frozen; have HO9 := hid ho9; have HG9 := hid hg9; have HK9 := hid hk9; clear ho9 hg9 hn9 hk9 hr9)
       have HQ9 := hid (HQ5.out.kid HS.out (q := ⟨.int .i64 vk, .string vs, .slice va vn vc, .slice vA vm vq⟩) (HBA.out.alloc HBA.out.size (.cells #[.int .i64 vk, .string vs, .slice va vn vc, .slice vA vm vq] 25)) qs5 HKO5.out (by rw [hMj]; exact HO9.out) HG9.out HK9.out (wr := wr) (fun b hb => by obtain ⟨qq, hqq⟩ := HQ.out.2.2.2.2; exact (hqq.1.lt b hb).2) HSZ.out HND.out)
       go_roundw
       case rel => exact ⟨j + 1, M ++ [d'], _, by omega, by rw [List.length_append, hMj]; rfl, by go_num, HST, HQ9⟩
       case measure => simp [intOf]; omega
     ·obtain rfl : j = n := by omega
      have HEND : Hid (RS = .ok M) := hid (by rw [← HTN.out]; exact thenN_end _ _ _ _ (by rw [HNN.out]; exact Nat.le_refl _))
      obtain ⟨a8, c8, hs8⟩ : ∃ a8 c8, s8 = .slice a8 j c8 := by
       obtain ⟨qq, hqq⟩ := HQ.out.2.2.2.2
       obtain ⟨a, c, h⟩ := own_shape hqq.1
       exact ⟨a, c, by rw [h, hMj]⟩
      subst hs8
      go_wp2
      refine bodyPost_ret (v := .tuple #[.agg #[.int .i64 ck, .string X, .slice ca cn cc, .slice a8 j c8], .int .i64 0]) (by simp [results, Tryz.results9, go_sem, z0, z1, z2, z3]) rfl ?_
      rw [HRR.out, HEND.out]
      have hsz := HQ.out.size
      obtain ⟨qq, hqq⟩ := HQ.out.2.2.2.2
      have hkd : KdS (New S w wr) wr (.slice a8 j c8) M := hqq.kdS (fun b hb => hb.imp id fun h => ⟨by omega, h.2.1⟩) fun b hb => .inr ⟨by have := (hqq.1.lt b hb).1; omega, (hqq.1.lt b hb).2⟩
      have hkeep : ∀ b, New S w wr b → b ≠ w.heap.size + 1 → New S w (put4n wr (w.heap.size + 1) (.int .i64 ck) (.string X) (.slice ca cn cc) (.slice a8 j c8)) b ∧ (put4n wr (w.heap.size + 1) (.int .i64 ck) (.string X) (.slice ca cn cc) (.slice a8 j c8)).heap[b]? = wr.heap[b]? := fun b hb hne =>
       ⟨hb.imp id fun h => ⟨h.1, by rw [put4n_size]; exact h.2⟩, put4n_oth _ _ _ _ _ _ b hne⟩
      have hfin : KdS (New S w (put4n wr (w.heap.size + 1) (.int .i64 ck) (.string X) (.slice ca cn cc) (.slice a8 j c8))) (put4n wr (w.heap.size + 1) (.int .i64 ck) (.string X) (.slice ca cn cc) (.slice a8 j c8)) (.slice a8 j c8) M := by
       have h1 : KO (OwnY S w wr (.slice a8 j c8)) (w.heap.size + 3) (put4n wr (w.heap.size + 1) (.int .i64 ck) (.string X) (.slice ca cn cc) (.slice a8 j c8)) (.slice a8 j c8) qq M := hqq.keep (fun b hb => ⟨hb, put4n_oth _ _ _ _ _ _ b (by rcases hb with h | h; have := HS.out b h; omega; have := h.1; omega)⟩) fun b hb => put4n_oth _ _ _ _ _ _ b (by have := (hqq.1.lt b hb).1; omega)
       exact h1.kdS (fun b hb => hb.imp id fun h => ⟨by omega, by rw [put4n_size]; exact h.2.1⟩) fun b hb => .inr ⟨by have := (hqq.1.lt b hb).1; omega, by rw [put4n_size]; exact (hqq.1.lt b hb).2⟩
      obtain ⟨A9, cap9, hA9, hc9, hm9, hn9, hk9⟩ := hfin
      refine ⟨_, _, _, _, rfl, ?_, put4n_below HQ.out.1 (Nat.le_succ _) _ _ _ _⟩
      rw [NdC]
      refine ⟨rfl, by rw [← HXT.out, ba_of], HKS.out.keep fun b hb => ⟨.inl hb, (put4n_oth _ _ _ _ _ _ b (by have := HS.out b hb; omega)).trans (HQ.out.1.block b (HS.out b hb))⟩, A9, cap9, hA9, hc9, hm9, hn9, hk9⟩
end
end Go.Proofs.YtkcilmmaggmmoaaGreatDoor
