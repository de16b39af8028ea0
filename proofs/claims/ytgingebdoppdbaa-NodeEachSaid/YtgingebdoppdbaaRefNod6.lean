/- The contracts of the document's own Small, Right and Get. -/
import Derived.Test.YtgingebdoppdbaaRefNod5
namespace Go.Proofs.Ytgingebdoppdbaa
open Go.RowKit Go.Sort
open Nw N8
set_option linter.unusedVariables false
theorem short_cnt (d : Nd) (h : cntT d ≤ 1099511627776) (r : Bool) (hr : shortT d = r) (c0 c1 c2 c3 : Value) (w : World) (hd : NdW w d c0 c1 c2 c3) :
    Calls Try.prog 30 #[.agg #[c0, c1, c2, c3]] w fun e w' => e = .returned (.bool r) ∧ Below w.heap.size w w' :=
  Rshort_any (cntT d) d (Nat.le_refl _) h r hr c0 c1 c2 c3 w hd
set_option maxHeartbeats 4000000 in
theorem RRight_any (d : Nd) (r : Bool) (hr : okT 2000 d = r) (c0 c1 c2 c3 : Value) (w : World) (hd : NdW w d c0 c1 c2 c3) :
    Calls Try.prog 23 #[.agg #[c0, c1, c2, c3]] w fun e w' => e = .returned (.bool r) ∧ Below w.heap.size w w' := by
  have HB0 := Lib.hid (Boxed.make hd)
  have HC := Lib.hid (fun W r hW => RLeft_any (cntT d) d (Nat.le_refl _) 1 2000 r (by decide) (by decide) (by decide) (by decide) hW c0 c1 c2 c3 W)
  obtain ⟨x, hx⟩ : ∃ x, leftT d 1 2000 = x := ⟨_, rfl⟩
  have HX := Lib.hid hx
  have HR : Hid (decide (0 ≤ x) = r) := Lib.hid (by rw [← hr, okT, hx])
  clear hx hr hd
  obtain ⟨x0, x1, x2, x3⟩ := HB0.out.2.1.cells
  go_enter Try.func23, Try.ntmps23
  by_cases hx0 : 0 ≤ x
  · go_wp2_with (go_at_call 29; refine (HC.out _ x HX.out HB0.out.2.2).mono ?_; rintro e w1 ⟨rfl, hb1⟩)
    go_ret
    exact ⟨ret_b (by rw [← HR.out, decide_eq_true hx0]), (HB0.out.go hb1).1⟩
  · have HE : Hid (r = false) := Lib.hid (by rw [← HR.out, decide_eq_false hx0])
    go_wp2_with (go_at_call 29; refine (HC.out _ x HX.out HB0.out.2.2).mono ?_; rintro e w1 ⟨rfl, hb1⟩)
    go_ret
    exact ⟨ret_b HR.out, (HB0.out.go hb1).1⟩
set_option maxHeartbeats 4000000 in
theorem RSmall_any (d : Nd) (most : Int) (h0 : 0 ≤ most) (h1 : most ≤ 100000) (r : Bool) (hr : smallT d most = r) (c0 c1 c2 c3 : Value) (w : World) (hd : NdW w d c0 c1 c2 c3) :
    Calls Try.prog 6 #[.agg #[c0, c1, c2, c3], .int .i64 most] w fun e w' => e = .returned (.bool r) ∧ Below w.heap.size w w' := by
  have HB0 := Lib.hid (Boxed.make hd)
  have HC := Lib.hid (fun W r hW => RLeft_any (cntT d) d (Nat.le_refl _) 1 most r (by decide) (by decide) h0 h1 hW c0 c1 c2 c3 W)
  obtain ⟨x, hx⟩ : ∃ x, leftT d 1 most = x := ⟨_, rfl⟩
  have HX := Lib.hid hx
  have HR : Hid ((decide (0 ≤ x) && shortT d) = r) := Lib.hid (by rw [← hr, smallT, okT, hx])
  obtain ⟨x0, x1, x2, x3⟩ := HB0.out.2.1.cells
  by_cases hx0 : 0 ≤ x
  · have hcnt : cntT d ≤ 1099511627776 := by have := leftT_cnt d 1 most (by rw [hx]; exact hx0); omega
    have HS := Lib.hid (fun W hW => short_cnt d hcnt (shortT d) rfl c0 c1 c2 c3 W hW)
    have HE : Hid (shortT d = r) := Lib.hid (by rw [← HR.out, decide_eq_true hx0, Bool.true_and])
    have hp : decide (0 ≤ x) = true := decide_eq_true hx0
    clear hx hr hd hcnt
    obtain ⟨q, hq⟩ : ∃ q, shortT d = q := ⟨_, rfl⟩
    rw [hq] at HS HE
    clear hq
    go_enter Try.func6, Try.ntmps6
    go_wp2_with fail
    refine (HC.out _ x HX.out HB0.out.2.2).mono ?_
    rintro e w1 ⟨rfl, hb1⟩
    have HB1 := Lib.hid (HB0.out.go hb1)
    clear hb1 x0 x1 x2 x3
    obtain ⟨x0, x1, x2, x3⟩ := HB1.out.2.1.cells
    go_wp2_with fail
    refine (HS.out _ HB1.out.2.2).mono ?_
    rintro e w2 ⟨rfl, hb2⟩
    have HB2 := Lib.hid (HB1.out.go hb2)
    clear hb2
    go_wp2
    go_ret
    exact ⟨ret_b HE.out, HB2.out.1⟩
  · have HE : Hid (r = false) := Lib.hid (by rw [← HR.out, decide_eq_false hx0, Bool.false_and])
    have hp : decide (0 ≤ x) = false := decide_eq_false hx0
    clear hx hr hd
    go_enter Try.func6, Try.ntmps6
    go_wp2_with fail
    refine (HC.out _ x HX.out HB0.out.2.2).mono ?_
    rintro e w1 ⟨rfl, hb1⟩
    have HB1 := Lib.hid (HB0.out.go hb1)
    clear hb1 x0 x1 x2 x3
    obtain ⟨x0, x1, x2, x3⟩ := HB1.out.2.1.cells
    go_wp2
    go_ret
    exact ⟨ret_b HE.out.symm, HB1.out.1⟩
/-- What Get gives back: the found node, or none; its blocks are of S. -/
def GotN (S : Nat → Prop) (w : World) (o : Option Nd) (e : Ending) (w' : World) : Prop :=
  ∃ e0 e1 e2 e3, e = .returned (.tuple #[.agg #[e0, e1, e2, e3], .bool o.isSome]) ∧ Below w.heap.size w w' ∧ NdC S w' (o.getD nul) e0 e1 e2 e3
theorem nd_nul (S : Nat → Prop) (w : World) : NdC S w nul (.int .i64 0) (.string ⟨#[]⟩) (.slice none 0 0) (.slice none 0 0) := by
  unfold nul
  rw [NdC]
  refine ⟨rfl, rfl, ?_, none, 0, rfl, Nat.zero_le _, Nat.zero_le _, fun _ => rfl, ?_⟩
  · exact ⟨none, 0, rfl, Nat.zero_le _, Nat.zero_le _, .inl ⟨rfl, fun _ => rfl⟩⟩
  · rw [NdK]; trivial
theorem NdC.old {S : Nat → Prop} {w w' : World} {d : Nd} {c0 c1 c2 c3 : Value} (h : NdC S w d c0 c1 c2 c3) (hS : ∀ b, S b → b < w.heap.size) (hb : Below w.heap.size w w') : NdC S w' d c0 c1 c2 c3 :=
  NdC.keep (fun b h => ⟨h, hb.block b (hS b h)⟩) d h
theorem NdC.all {S : Nat → Prop} {w : World} {d : Nd} {c0 c1 c2 c3 : Value} (h : NdC S w d c0 c1 c2 c3) (hS : ∀ b, S b → b < w.heap.size) : NdW w d c0 c1 c2 c3 :=
  NdC.keep (fun b h => ⟨hS b h, rfl⟩) d h
theorem NdC.kid {S : Nat → Prop} {w : World} {k : Int} {t : L8} {ks : List L8} {ds : List Nd} {c0 c1 c2 : Value} {A : Option Addr} {n cap : Nat} (h : NdC S w (.mk k t ks ds) c0 c1 c2 (.slice A n cap)) (j : Nat) (hj : j < ds.length) :
    ∃ (b o : Nat) (e0 e1 e2 e3 : Value), A = some ⟨b, o, none⟩ ∧ S b ∧ w.cell? ⟨b, o + j * 4, none⟩ = some e0 ∧ w.cell? ⟨b, o + j * 4 + 1, none⟩ = some e1 ∧
        w.cell? ⟨b, o + j * 4 + 2, none⟩ = some e2 ∧ w.cell? ⟨b, o + j * 4 + 3, none⟩ = some e3 ∧ NdC S w (ds[j]'hj) e0 e1 e2 e3 := by
  rw [NdC] at h
  obtain ⟨_, _, _, A', cap', hA', _, _, _, hK⟩ := h
  have hAe : A = A' := by injection hA'
  subst hAe
  have := NdK.at_ hK j hj
  rw [Nat.zero_add] at this
  exact this
/-- The shapes of a node's four cells. -/
theorem NdW.shape {w : World} {d : Nd} {c0 c1 c2 c3 : Value} (h : NdW w d c0 c1 c2 c3) :
    ∃ (k : Int) (s : ByteArray) (a : Option Addr) (n c : Nat) (A : Option Addr) (m q : Nat), c0 = .int .i64 k ∧ c1 = .string s ∧ c2 = .slice a n c ∧ c3 = .slice A m q := by
  cases d with
  | mk k t ks ds =>
    obtain ⟨h0, h1, h2, A, cap, h3, _⟩ := h.parts
    obtain ⟨a, c, h4, _⟩ := rd_slice h2
    exact ⟨k, _, a, _, c, A, _, cap, h0, h1, h4, h3⟩
theorem getK_hit : ∀ {ks : List L8} {ds : List Nd} {x : L8} (j : Nat) (h : j < ks.length) (g : j < ds.length), (∀ (i : Nat) (hi : i < ks.length), i < j → ks[i]'hi ≠ x) → ks[j]'h = x → getK ks ds x = some (ds[j]'g)
  | k :: ks, d :: ds, x, 0, _, _, _, e => by
    have e' : k = x := e
    rw [getK, if_pos e']; rfl
  | k :: ks, d :: ds, x, j + 1, h, g, hn, e => by
    have h0 : k ≠ x := hn 0 (Nat.succ_pos _) (Nat.succ_pos _)
    rw [getK, if_neg h0, getK_hit j (Nat.lt_of_succ_lt_succ h) (Nat.lt_of_succ_lt_succ g) (fun i hi hij => hn (i + 1) (Nat.succ_lt_succ hi) (Nat.succ_lt_succ hij)) e]; rfl
theorem getK_miss : ∀ {ks : List L8} {ds : List Nd} {x : L8}, (∀ (i : Nat) (hi : i < ks.length), ks[i]'hi ≠ x) → getK ks ds x = none
  | [], _, _, _ => by rw [getK]; intros; contradiction
  | _ :: _, [], _, _ => by rw [getK]; intros; contradiction
  | k :: ks, d :: ds, x, hn => by
    have h0 : k ≠ x := hn 0 (Nat.succ_pos _)
    rw [getK, if_neg h0, getK_miss fun i hi => hn (i + 1) (Nat.succ_lt_succ hi)]
set_option maxHeartbeats 4000000 in
theorem RGet_other (S : Nat → Prop) (d : Nd) (x : ByteArray) (hk : d.kind ≠ 3) (c0 c1 c2 c3 : Value) (w : World) (hd : NdW w d c0 c1 c2 c3) :
    Calls Try.prog 9 #[.agg #[c0, c1, c2, c3], .string x] w (GotN S w none) := by
  cases d with
  | mk k t ks ds =>
    obtain ⟨rfl, -, -, -⟩ := hd.parts
    have hk3 : k ≠ 3 := hk
    have p1 : (k == 3) = false := by simpa using hk3
    clear hd hk
    go_enter Try.func9, Try.ntmps9
    go_wp2
    refine bodyPost_ret (v := .tuple #[.agg #[.int .i64 0, .string ⟨#[]⟩, .slice none 0 0, .slice none 0 0], .bool false]) (by simp [results, Try.results9, go_sem]) rfl ⟨_, _, _, _, rfl, ?_, nd_nul _ _⟩
    exact ((Below.refl _ _).alloc (Nat.le_refl _) _).alloc (by simp) _
set_option maxHeartbeats 4000000 in
theorem RGet_map (S : Nat → Prop) (t : L8) (ks : List L8) (ds : List Nd) (hl : ks.length = ds.length) (x : ByteArray) (r : Option Nd) (hr : getK ks ds x.data.toList = r) (c0 c1 c2 c3 : Value) (w : World) (hS : ∀ b, S b → b < w.heap.size) (hd0 : NdC S w (.mk 3 t ks ds) c0 c1 c2 c3) :
    Calls Try.prog 9 #[.agg #[c0, c1, c2, c3], .string x] w (GotN S w r) := by
  have hd := hd0.all hS
  obtain ⟨rfl, rfl, hks, A, cap, rfl, hcap, hm, _, _⟩ := hd.parts
  obtain ⟨a, kcap, rfl, hkc, hkm⟩ := rd_slice hks
  have HD := Lib.hid hd0
  have HS := Lib.hid hS
  have HR := Lib.hid hr
  obtain ⟨n, hn⟩ : ∃ n, ds.length = n := ⟨_, rfl⟩
  have HN := Lib.hid hn
  have HM : Hid (ks.length = n) := Lib.hid (hl.trans hn)
  have HKS := Lib.hid hks
  rw [HM.out] at HD HKS hkc
  rw [hn] at HD hcap
  rw [HM.out, hn]
  unfold maxLen at hm hkm
  have hm63 : n ≤ 9223372036854775807 := by omega
  obtain ⟨T, hT⟩ : ∃ T, ba t = T := ⟨_, rfl⟩
  rw [hT] at HD ⊢
  clear hd hd0 hS hr hn hl hks hT
  go_enter Try.func9, Try.ntmps9
  go_wp2
  go_loop [6] (fun si => ∃ j : Nat, j ≤ n ∧ si = .int .i64 (j : Int) ∧ Hid (∀ (i : Nat) (hi : i < ks.length), i < j → ks[i]'hi ≠ x.data.toList)) (fun si => n - (intOf si).toNat)
  case atStart => exact ⟨0, Nat.zero_le _, rfl, Lib.hid fun i _ h => absurd h (Nat.not_lt_zero _)⟩
  case round =>
    obtain ⟨j, hj, rfl, HK⟩ := hrel
    by_cases hlt : j < n
    · have hjl : j < ks.length := by rw [HM.out]; exact hlt
      have hjd : j < ds.length := by rw [HN.out]; exact hlt
      have hjz : (j : Int) < (n : Int) := by omega
      obtain ⟨b, o, rfl, hb, y0⟩ := rd_at HKS.out j hjl
      have y1 := (Below.cell (w' := (w.alloc (.cells #[.int .i64 3, .string T, .slice (some ⟨b, o, none⟩) n kcap, .slice A n cap] 25)).alloc (.cells #[.int .i64 0, .string ⟨#[]⟩, .slice none 0 0, .slice none 0 0] 25)) (((Below.refl _ w).alloc (Nat.le_refl _) _).alloc (by simp) _) (p := ⟨b, o + j, none⟩) hb).trans y0
      obtain ⟨K, hK⟩ : ∃ K, ba (ks[j]'hjl) = K := ⟨_, rfl⟩
      rw [hK] at y0 y1
      by_cases hkx : ks[j]'hjl = x.data.toList
      · have p1 : (K.toList == x.toList) = true := by rw [← hK]; exact str_eq_true hkx
        obtain ⟨b', o', e0, e1, e2, e3, rfl, hbS, z0, z1, z2, z3, hnd⟩ := HD.out.kid j hjd
        have hb' := HS.out _ hbS
        have HE := Lib.hid (getK_hit j hjl hjd HK.out hkx)
        obtain ⟨k', s', a', n', c', A', m', q', rfl, rfl, rfl, rfl⟩ := (hnd.all HS.out).shape
        have HND := Lib.hid hnd
        clear hnd hkx hK
        have q0 := (Below.cell (w' := (w.alloc (.cells #[.int .i64 3, .string T, .slice (some ⟨b, o, none⟩) n kcap, .slice (some ⟨b', o', none⟩) n cap] 25)).alloc (.cells #[.int .i64 0, .string ⟨#[]⟩, .slice none 0 0, .slice none 0 0] 25)) (((Below.refl _ w).alloc (Nat.le_refl _) _).alloc (by simp) _) (p := ⟨b', o' + j * 4, none⟩) hb').trans z0
        have q1 := (Below.cell (w' := (w.alloc (.cells #[.int .i64 3, .string T, .slice (some ⟨b, o, none⟩) n kcap, .slice (some ⟨b', o', none⟩) n cap] 25)).alloc (.cells #[.int .i64 0, .string ⟨#[]⟩, .slice none 0 0, .slice none 0 0] 25)) (((Below.refl _ w).alloc (Nat.le_refl _) _).alloc (by simp) _) (p := ⟨b', o' + j * 4 + 1, none⟩) hb').trans z1
        have q2 := (Below.cell (w' := (w.alloc (.cells #[.int .i64 3, .string T, .slice (some ⟨b, o, none⟩) n kcap, .slice (some ⟨b', o', none⟩) n cap] 25)).alloc (.cells #[.int .i64 0, .string ⟨#[]⟩, .slice none 0 0, .slice none 0 0] 25)) (((Below.refl _ w).alloc (Nat.le_refl _) _).alloc (by simp) _) (p := ⟨b', o' + j * 4 + 2, none⟩) hb').trans z2
        have q3 := (Below.cell (w' := (w.alloc (.cells #[.int .i64 3, .string T, .slice (some ⟨b, o, none⟩) n kcap, .slice (some ⟨b', o', none⟩) n cap] 25)).alloc (.cells #[.int .i64 0, .string ⟨#[]⟩, .slice none 0 0, .slice none 0 0] 25)) (((Below.refl _ w).alloc (Nat.le_refl _) _).alloc (by simp) _) (p := ⟨b', o' + j * 4 + 3, none⟩) hb').trans z3
        go_wp2
        have hbE := ((Below.refl w.heap.size w).alloc (Nat.le_refl _) (.cells #[.int .i64 3, .string T, .slice (some ⟨b, o, none⟩) n kcap, .slice (some ⟨b', o', none⟩) n cap] 25)).alloc (by simp) (.cells #[.int .i64 k', .string s', .slice a' n' c', .slice A' m' q'] 25)
        refine bodyPost_ret (v := .tuple #[.agg #[.int .i64 k', .string s', .slice a' n' c', .slice A' m' q'], .bool true]) (by simp [results, Try.results9, go_sem]) rfl ⟨_, _, _, _, by rw [← HR.out, HE.out]; rfl, hbE, by rw [← HR.out, HE.out]; exact HND.out.old HS.out hbE⟩
      · have p1 : (K.toList == x.toList) = false := by rw [← hK]; exact str_eq_false hkx
        clear hK
        have HKX := Lib.hid hkx
        clear hkx
        go_wp2
        go_round
        case rel =>
          refine ⟨j + 1, by omega, by go_num, Lib.hid fun i hi hij => ?_⟩
          rcases Nat.lt_succ_iff_lt_or_eq.1 hij with h | rfl
          · exact HK.out i hi h
          · exact HKX.out
        case measure => simp [intOf]; omega
    · obtain rfl : j = n := by omega
      have HE := Lib.hid (getK_miss (ds := ds) fun i hi => HK.out i hi (by rw [← HM.out]; exact hi))
      go_wp2
      refine bodyPost_ret (v := .tuple #[.agg #[.int .i64 0, .string ⟨#[]⟩, .slice none 0 0, .slice none 0 0], .bool false]) (by simp [results, Try.results9, go_sem]) rfl ⟨_, _, _, _, by rw [← HR.out, HE.out]; rfl, ((Below.refl _ _).alloc (Nat.le_refl _) _).alloc (by simp) _, by rw [← HR.out, HE.out]; exact nd_nul _ _⟩
theorem RGet_any (S : Nat → Prop) (d : Nd) (x : ByteArray) (hl : d.kind = 3 → d.keys.length = d.kids.length) (r : Option Nd) (hr : getT d x.data.toList = r) (c0 c1 c2 c3 : Value) (w : World) (hS : ∀ b, S b → b < w.heap.size) (hd : NdC S w d c0 c1 c2 c3) :
    Calls Try.prog 9 #[.agg #[c0, c1, c2, c3], .string x] w (GotN S w r) := by
  by_cases hk : d.kind = 3
  · cases d with
    | mk k t ks ds =>
      have hk' : k = 3 := hk
      subst hk'
      rw [getT, if_pos hk] at hr
      exact RGet_map S t ks ds (hl rfl) x r hr c0 c1 c2 c3 w hS hd
  · rw [getT, if_neg hk] at hr
    subst hr
    exact RGet_other S d x hk c0 c1 c2 c3 w (hd.all hS)
end Go.Proofs.Ytgingebdoppdbaa
