/- The contracts of the document's own Small, Right and Get. -/
import Derived.Test.YtemndagaicamiaaGreatDoorRefNod5
namespace Go.Proofs.YtemndagaicamiaaGreatDoor
open Go.RowKit Go.Sort
open Nw N8
set_option linter.unusedVariables false
theorem short_cnt (d : Nd) (h : cntT d ≤ 1099511627776) (r : Bool) (hr : shortT d = r) (c0 c1 c2 c3 : Value) (w : World) (hd : NdW w d c0 c1 c2 c3) :
    Calls Tryz.prog 13 #[.agg #[c0, c1, c2, c3]] w fun e w' => e = .returned (.bool r) ∧ Below w.heap.size w w' :=
  Rshort_any (cntT d) d (Nat.le_refl _) h r hr c0 c1 c2 c3 w hd
set_option maxHeartbeats 4000000 in
theorem RRight_any (d : Nd) (r : Bool) (hr : okT 2000 d = r) (c0 c1 c2 c3 : Value) (w : World) (hd : NdW w d c0 c1 c2 c3) :
    Calls Tryz.prog 11 #[.agg #[c0, c1, c2, c3]] w fun e w' => e = .returned (.bool r) ∧ Below w.heap.size w w' := by
  have HB0 := Lib.hid (Boxed.make hd)
  have HC := Lib.hid (fun W r hW => RLeft_any (cntT d) d (Nat.le_refl _) 1 2000 r (by decide) (by decide) (by decide) (by decide) hW c0 c1 c2 c3 W)
  obtain ⟨x, hx⟩ : ∃ x, leftT d 1 2000 = x := ⟨_, rfl⟩
  have HX := Lib.hid hx
  have HR : Hid (decide (0 ≤ x) = r) := Lib.hid (by rw [← hr, okT, hx])
  clear hx hr hd
  obtain ⟨x0, x1, x2, x3⟩ := HB0.out.2.1.cells
  go_enter Tryz.func11, Tryz.ntmps11
  by_cases hx0 : 0 ≤ x
  · go_wp2_with (go_at_call 12; refine (HC.out _ x HX.out HB0.out.2.2).mono ?_; rintro e w1 ⟨rfl, hb1⟩)
    go_ret
    exact ⟨ret_b (by rw [← HR.out, decide_eq_true hx0]), (HB0.out.go hb1).1⟩
  · have HE : Hid (r = false) := Lib.hid (by rw [← HR.out, decide_eq_false hx0])
    go_wp2_with (go_at_call 12; refine (HC.out _ x HX.out HB0.out.2.2).mono ?_; rintro e w1 ⟨rfl, hb1⟩)
    go_ret
    exact ⟨ret_b HR.out, (HB0.out.go hb1).1⟩
set_option maxHeartbeats 4000000 in
theorem RSmall_any (d : Nd) (most : Int) (h0 : 0 ≤ most) (h1 : most ≤ 100000) (r : Bool) (hr : smallT d most = r) (c0 c1 c2 c3 : Value) (w : World) (hd : NdW w d c0 c1 c2 c3) :
    Calls Tryz.prog 5 #[.agg #[c0, c1, c2, c3], .int .i64 most] w fun e w' => e = .returned (.bool r) ∧ Below w.heap.size w w' := by
  have HB0 := Lib.hid (Boxed.make hd)
  have HC := Lib.hid (fun W r hW => RLeft_any (cntT d) d (Nat.le_refl _) 1 most r (by decide) (by decide) h0 h1 hW c0 c1 c2 c3 W)
  obtain ⟨x, hx⟩ : ∃ x, leftT d 1 most = x := ⟨_, rfl⟩
  have HX := Lib.hid hx
  have HR : Hid ((decide (0 ≤ x) && shortT d) = r) := Lib.hid (by rw [← hr, smallT, okT, hx])
  obtain ⟨x0, x1, x2, x3⟩ := HB0.out.2.1.cells
  by_cases hx0 : 0 ≤ x
  · have hcnt : cntT d ≤ 1099511627776 := by have := leftT_cnt d 1 most (by rw [hx]; exact hx0); omega
    have HS := Lib.hid (fun W hW => short_cnt d hcnt (shortT d) rfl c0 c1 c2 c3 W hW)
    have HE : Hid (shortT d = r) := Lib.hid (by rw [← HR.out, decide_eq_true hx0, Bool.true_and])
    have hp : decide (0 ≤ x) = true := decide_eq_true hx0
    clear hx hr hd hcnt
    obtain ⟨q, hq⟩ : ∃ q, shortT d = q := ⟨_, rfl⟩
    rw [hq] at HS HE
    clear hq
    go_enter Tryz.func5, Tryz.ntmps5
    go_wp2_with fail
    refine (HC.out _ x HX.out HB0.out.2.2).mono ?_
    rintro e w1 ⟨rfl, hb1⟩
    have HB1 := Lib.hid (HB0.out.go hb1)
    clear hb1 x0 x1 x2 x3
    obtain ⟨x0, x1, x2, x3⟩ := HB1.out.2.1.cells
    go_wp2_with fail
    refine (HS.out _ HB1.out.2.2).mono ?_
    rintro e w2 ⟨rfl, hb2⟩
    have HB2 := Lib.hid (HB1.out.go hb2)
    clear hb2
    go_wp2
    go_ret
    exact ⟨ret_b HE.out, HB2.out.1⟩
  · have HE : Hid (r = false) := Lib.hid (by rw [← HR.out, decide_eq_false hx0, Bool.false_and])
    have hp : decide (0 ≤ x) = false := decide_eq_false hx0
    clear hx hr hd
    go_enter Tryz.func5, Tryz.ntmps5
    go_wp2_with fail
    refine (HC.out _ x HX.out HB0.out.2.2).mono ?_
    rintro e w1 ⟨rfl, hb1⟩
    have HB1 := Lib.hid (HB0.out.go hb1)
    clear hb1 x0 x1 x2 x3
    obtain ⟨x0, x1, x2, x3⟩ := HB1.out.2.1.cells
    go_wp2
    go_ret
    exact ⟨ret_b HE.out.symm, HB1.out.1⟩
/-- What Get gives back: the found node, or none; its blocks are of S. -/
def GotN (S : Nat → Prop) (w : World) (o : Option Nd) (e : Ending) (w' : World) : Prop :=
  ∃ e0 e1 e2 e3, e = .returned (.tuple #[.agg #[e0, e1, e2, e3], .bool o.isSome]) ∧ Below w.heap.size w w' ∧ NdC S w' (o.getD nul) e0 e1 e2 e3
theorem nd_nul (S : Nat → Prop) (w : World) : NdC S w nul (.int .i64 0) (.string ⟨#[]⟩) (.slice none 0 0) (.slice none 0 0) := by
  unfold nul
  rw [NdC]
  refine ⟨rfl, rfl, ?_, none, 0, rfl, Nat.zero_le _, Nat.zero_le _, fun _ => rfl, ?_⟩
  · exact ⟨none, 0, rfl, Nat.zero_le _, Nat.zero_le _, .inl ⟨rfl, fun _ => rfl⟩⟩
  · rw [NdK]; trivial
theorem NdC.old {S : Nat → Prop} {w w' : World} {d : Nd} {c0 c1 c2 c3 : Value} (h : NdC S w d c0 c1 c2 c3) (hS : ∀ b, S b → b < w.heap.size) (hb : Below w.heap.size w w') : NdC S w' d c0 c1 c2 c3 :=
  NdC.keep (fun b h => ⟨h, hb.block b (hS b h)⟩) d h
theorem NdC.all {S : Nat → Prop} {w : World} {d : Nd} {c0 c1 c2 c3 : Value} (h : NdC S w d c0 c1 c2 c3) (hS : ∀ b, S b → b < w.heap.size) : NdW w d c0 c1 c2 c3 :=
  NdC.keep (fun b h => ⟨hS b h, rfl⟩) d h
theorem NdC.kid {S : Nat → Prop} {w : World} {k : Int} {t : L8} {ks : List L8} {ds : List Nd} {c0 c1 c2 : Value} {A : Option Addr} {n cap : Nat} (h : NdC S w (.mk k t ks ds) c0 c1 c2 (.slice A n cap)) (j : Nat) (hj : j < ds.length) :
    ∃ (b o : Nat) (e0 e1 e2 e3 : Value), A = some ⟨b, o, none⟩ ∧ S b ∧ w.cell? ⟨b, o + j * 4, none⟩ = some e0 ∧ w.cell? ⟨b, o + j * 4 + 1, none⟩ = some e1 ∧
        w.cell? ⟨b, o + j * 4 + 2, none⟩ = some e2 ∧ w.cell? ⟨b, o + j * 4 + 3, none⟩ = some e3 ∧ NdC S w (ds[j]'hj) e0 e1 e2 e3 := by
  rw [NdC] at h
  obtain ⟨_, _, _, A', cap', hA', _, _, _, hK⟩ := h
  have hAe : A = A' := by injection hA'
  subst hAe
  have := NdK.at_ hK j hj
  rw [Nat.zero_add] at this
  exact this
/-- The shapes of a node's four cells. -/
theorem NdW.shape {w : World} {d : Nd} {c0 c1 c2 c3 : Value} (h : NdW w d c0 c1 c2 c3) :
    ∃ (k : Int) (s : ByteArray) (a : Option Addr) (n c : Nat) (A : Option Addr) (m q : Nat), c0 = .int .i64 k ∧ c1 = .string s ∧ c2 = .slice a n c ∧ c3 = .slice A m q := by
  cases d with
  | mk k t ks ds =>
    obtain ⟨h0, h1, h2, A, cap, h3, _⟩ := h.parts
    obtain ⟨a, c, h4, _⟩ := rd_slice h2
    exact ⟨k, _, a, _, c, A, _, cap, h0, h1, h4, h3⟩
theorem getK_hit : ∀ {ks : List L8} {ds : List Nd} {x : L8} (j : Nat) (h : j < ks.length) (g : j < ds.length), (∀ (i : Nat) (hi : i < ks.length), i < j → ks[i]'hi ≠ x) → ks[j]'h = x → getK ks ds x = some (ds[j]'g)
  | k :: ks, d :: ds, x, 0, _, _, _, e => by
    have e' : k = x := e
    rw [getK, if_pos e']; rfl
  | k :: ks, d :: ds, x, j + 1, h, g, hn, e => by
    have h0 : k ≠ x := hn 0 (Nat.succ_pos _) (Nat.succ_pos _)
    rw [getK, if_neg h0, getK_hit j (Nat.lt_of_succ_lt_succ h) (Nat.lt_of_succ_lt_succ g) (fun i hi hij => hn (i + 1) (Nat.succ_lt_succ hi) (Nat.succ_lt_succ hij)) e]; rfl
theorem getK_miss : ∀ {ks : List L8} {ds : List Nd} {x : L8}, (∀ (i : Nat) (hi : i < ks.length), ks[i]'hi ≠ x) → getK ks ds x = none
  | [], _, _, _ => by rw [getK]; intros; contradiction
  | _ :: _, [], _, _ => by rw [getK]; intros; contradiction
  | k :: ks, d :: ds, x, hn => by
    have h0 : k ≠ x := hn 0 (Nat.succ_pos _)
    rw [getK, if_neg h0, getK_miss fun i hi => hn (i + 1) (Nat.succ_lt_succ hi)]
end Go.Proofs.YtemndagaicamiaaGreatDoor
