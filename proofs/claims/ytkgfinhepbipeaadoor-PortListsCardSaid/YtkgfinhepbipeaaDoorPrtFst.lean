/- First's closure; slices.IndexFunc at ports; First. -/
import Derived.Test.YtkgfinhepbipeaaDoorPrtCla
namespace Go.Proofs.YtkgfinhepbipeaaDoor
open Go.RowKit Go.Sort
open Nw Dg P16
set_option linter.unusedVariables false
instance poInh : Inhabited Po := ⟨⟨[], 0, 0, []⟩⟩
theorem find_hit {q : Po → Bool} {l : List Po} {m : Nat} (h : m < l.length) (hq : q l[m] = true) (hn : ∀ j (hj : j < m), q (l[j]'(by omega)) = false) : l.findIdx? q = some m :=
  List.findIdx?_eq_some_iff_getElem.2 ⟨h, hq, fun j hj => by rw [hn j hj]; exact Bool.false_ne_true⟩
theorem find_miss {q : Po → Bool} {l : List Po} (hn : ∀ j (hj : j < l.length), q l[j] = false) : l.findIdx? q = none :=
  List.findIdx?_eq_none_iff.2 fun x hx => by
    obtain ⟨j, hj, rfl⟩ := List.getElem_of_mem hx
    exact hn j hj
def idxI (q : Po → Bool) (l : List Po) : Int := match l.findIdx? q with
  | some k => (k : Int)
  | none => -1
theorem idx_is (q : Po → Bool) (l : List Po) (x : Po) : Lib.idxBy (fun _ y => q y) l x = idxI q l := by
  unfold idxI
  cases hf : l.findIdx? q with
  | some k =>
    obtain ⟨h, hq, hn⟩ := List.findIdx?_eq_some_iff_getElem.1 hf
    have := Lib.idxBy_hit (fun _ y => q y) l l.length k x h (Nat.le_refl _) (by rw [getElem!_pos l k h]; exact hq) (fun j hj => by rw [getElem!_pos l j (by omega)]; exact Bool.eq_false_iff.2 (hn j hj))
    rwa [List.take_length] at this
  | none =>
    have hn := List.findIdx?_eq_none_iff.1 hf
    have := Lib.idxBy_miss (fun _ y => q y) l l.length x (fun j hj => by rw [getElem!_pos l j hj]; exact hn _ (List.getElem_mem hj))
    rwa [List.take_length] at this
theorem idxI_lt (q : Po → Bool) (l : List Po) : idxI q l = -1 ∨ (0 ≤ idxI q l ∧ idxI q l < l.length) := by
  unfold idxI
  cases hf : l.findIdx? q with
  | some k =>
    obtain ⟨h, _, _⟩ := List.findIdx?_eq_some_iff_getElem.1 hf
    right; dsimp only; omega
  | none => exact .inl rfl
/-- The first pair that clashes. -/
def firstP (i : Nat) : List Po → Int × Int × Bool
  | [] => (0, 0, false)
  | p :: l => match l.findIdx? (clashB p) with
    | some k => ((i : Int), (i : Int) + 1 + (k : Int), true)
    | none => firstP (i + 1) l
theorem firstP_any : ∀ (i : Nat) (l : List Po), (firstP i l).2.2 = anyC l
  | _, [] => rfl
  | i, p :: l => by
    rw [firstP, anyC]
    cases hf : l.findIdx? (clashB p) with
    | some k =>
      obtain ⟨h, hq, _⟩ := List.findIdx?_eq_some_iff_getElem.1 hf
      have : l.any (clashB p) = true := List.any_eq_true.2 ⟨_, List.getElem_mem h, hq⟩
      rw [this]; rfl
    | none =>
      have : l.any (clashB p) = false := by
        rw [List.any_eq_false]
        intro x hx
        rw [List.findIdx?_eq_none_iff.1 hf x hx]; exact Bool.false_ne_true
      rw [this, Bool.false_or]
      exact firstP_any (i + 1) l
theorem firstP_hit {l : List Po} {k : Nat} {h : k < l.length} {i : Int} (hi : idxI (clashB (l[k]'h)) (l.drop (k + 1)) = i) (h0 : 0 ≤ i) : firstP k (l.drop k) = ((k : Int), (k : Int) + 1 + i, true) := by
  rw [List.drop_eq_getElem_cons h, firstP]
  unfold idxI at hi
  cases hf : (l.drop (k + 1)).findIdx? (clashB (l[k]'h)) with
  | some m => rw [hf] at hi; dsimp only at hi ⊢; rw [hi]
  | none => rw [hf] at hi; dsimp only at hi; omega
theorem firstP_miss {l : List Po} {k : Nat} {h : k < l.length} (hi : idxI (clashB (l[k]'h)) (l.drop (k + 1)) = -1) : firstP k (l.drop k) = firstP (k + 1) (l.drop (k + 1)) := by
  rw [List.drop_eq_getElem_cons h, firstP]
  unfold idxI at hi
  cases hf : (l.drop (k + 1)).findIdx? (clashB (l[k]'h)) with
  | some m => rw [hf] at hi; dsimp only at hi; omega
  | none => rfl
/-- A port's cells at a box. -/
def BxP (w : World) (g : Nat) (p : Po) : Prop := g < w.heap.size ∧ w.cell? ⟨g, 0, none⟩ = some (.string (ba p.host)) ∧ w.cell? ⟨g, 1, none⟩ = some (.int .i64 p.out) ∧ w.cell? ⟨g, 2, none⟩ = some (.int .i64 p.inn) ∧ w.cell? ⟨g, 3, none⟩ = some (.string (ba p.proto))
theorem BxP.below {w w' : World} {g : Nat} {p : Po} (k : BxP w g p) (hb : Below w.heap.size w w') : BxP w' g p :=
  ⟨Nat.lt_of_lt_of_le k.1 hb.size, (hb.cell (p := ⟨g, 0, none⟩) k.1).trans k.2.1, (hb.cell (p := ⟨g, 1, none⟩) k.1).trans k.2.2.1, (hb.cell (p := ⟨g, 2, none⟩) k.1).trans k.2.2.2.1, (hb.cell (p := ⟨g, 3, none⟩) k.1).trans k.2.2.2.2⟩
theorem clash_val (p q : Po) (w : World) : Calls Tryd.prog 18 #[valP p, valP q] w fun e w' => e = .returned (.bool (clashB p q)) ∧ Below w.heap.size w w' := by
  have h := Clash16_any (ba p.host) (ba p.proto) (ba q.host) (ba q.proto) p.out p.inn q.out q.inn w
  rw [ba_data, ba_data, ba_data, ba_data] at h
  exact h
set_option maxRecDepth 100000 in
set_option maxHeartbeats 4000000 in
theorem fst_clo (p q : Po) (g : Nat) (w : World) (hp : BxP w g p) :
    Calls Tryd.prog 29 #[.agg #[.string (ba q.host), .int .i64 q.out, .int .i64 q.inn, .string (ba q.proto)], .pointer (some ⟨g, 0, none⟩)] w fun e w' => e = .returned (.bool (clashB p q)) ∧ Below w.heap.size w w' := by
  have HC := Lib.hid (fun w0 => clash_val p q w0)
  unfold valP at HC
  have HB0 := Lib.hid (one_belowP w (.cells #[.string (ba q.host), .int .i64 q.out, .int .i64 q.inn, .string (ba q.proto)] 24))
  obtain ⟨x0, x1, x2, x3, x4⟩ := hp.below HB0.out
  have hlt0 := hp.1
  obtain ⟨R, hR⟩ : ∃ R, clashB p q = R := ⟨_, rfl⟩
  rw [hR] at HC
  rw [hR]
  obtain ⟨a, ha⟩ : ∃ a, ba p.host = a := ⟨_, rfl⟩
  obtain ⟨b, hb⟩ : ∃ b, ba p.proto = b := ⟨_, rfl⟩
  obtain ⟨c, hc⟩ : ∃ c, ba q.host = c := ⟨_, rfl⟩
  obtain ⟨d, hd⟩ : ∃ d, ba q.proto = d := ⟨_, rfl⟩
  obtain ⟨o, ho⟩ : ∃ o, p.out = o := ⟨_, rfl⟩
  obtain ⟨i, hi⟩ : ∃ i, p.inn = i := ⟨_, rfl⟩
  obtain ⟨o2, ho2⟩ : ∃ o, q.out = o := ⟨_, rfl⟩
  obtain ⟨i2, hi2⟩ : ∃ i, q.inn = i := ⟨_, rfl⟩
  rw [ha, hb, hc, hd, ho, hi, ho2, hi2] at HC
  rw [hc, hd, ho2, hi2] at HB0 x1 x2 x3 x4
  rw [ha] at x1
  rw [ho] at x2
  rw [hi] at x3
  rw [hb] at x4
  rw [hc, hd, ho2, hi2]
  clear hR ha hb hc hd ho hi ho2 hi2 hp
  have hne : g ≠ w.heap.size := Nat.ne_of_lt hlt0
  go_enter Tryd.func29, Tryd.ntmps29
  go_wp2_with (go_at_call 18; refine (HC.out _).mono ?_; rintro e w1 ⟨rfl, hb⟩; have HB := Lib.hid hb; clear hb)
  go_ret
  exact ⟨rfl, HB0.out.trans (HB.out.mono HB0.out.size)⟩
theorem fst_pred (p : Po) (g : Nat) (w : World) (hp : BxP w g p) :
    PredBelow Tryd.prog 29 #[.pointer (some ⟨g, 0, none⟩)] (fun x => .agg (encP x).toArray) (clashB p) w := fun W x hb =>
  (fst_clo p x g W (hp.below hb)).mono fun e w' ⟨h1, h2⟩ => ⟨h1, hb.trans (h2.mono hb.size)⟩
theorem encP_at {w : World} {b o j : Nat} {p : Po} (h : At4 w b o j p) (i : Nat) (v : Value) (hi : (encP p)[i]? = some v) : w.cell? ⟨b, o + j * 4 + i, none⟩ = some v := by
  obtain ⟨h0, h1, h2, h3⟩ := h
  match i, hi with
  | 0, hi => injection hi with hi; rw [← hi]; exact h0
  | 1, hi => injection hi with hi; rw [← hi]; exact h1
  | 2, hi => injection hi with hi; rw [← hi]; exact h2
  | 3, hi => injection hi with hi; rw [← hi]; exact h3
theorem idxF_any (p : Po) (g b o c : Nat) (l : List Po) (w : World) (hp : BxP w g p) (hl : l.length ≤ 100000) (hb : b < w.heap.size) (hc : ∀ j (h : j < l.length), At4 w b o j l[j]) :
    Calls Tryd.prog 28 #[.slice (some ⟨b, o, none⟩) l.length c, .func (.func 29) #[] #[.pointer (some ⟨g, 0, none⟩)]] w fun e w' => e = .returned (.int .i64 (idxI (clashB p) l)) ∧ Below w.heap.size w w' := by
  have h := AnyQ.slices_IndexFunc Tryd.indexPort 4 Tryd.isAgg24 Tryd.sizeOf24 encP (fun _ => rfl) (clashB p) 29 #[.pointer (some ⟨g, 0, none⟩)] (enters_of Tryd.func29 (by kernel_rfl) rfl) b o l.length c l w (fst_pred p g w hp) (Nat.le_refl _) (by omega) hb
    (fun j hj i v hi => by rw [getElem!_pos l j hj] at hi; exact encP_at (hc j hj) i v hi)
  rw [List.take_length, idx_is] at h
  exact h
theorem bxP_new (w : World) (p : Po) : BxP (w.alloc (.cells #[.string (ba p.host), .int .i64 p.out, .int .i64 p.inn, .string (ba p.proto)] 24)) w.heap.size p := by
  refine ⟨by simp, ?_, ?_, ?_, ?_⟩ <;> simp
theorem drop_at {w : World} {b o : Nat} {l : List Po} (h : ∀ j (h : j < l.length), At4 w b o j l[j]) (k : Nat) : ∀ j (h : j < (l.drop k).length), At4 w b (o + k * 4) j (l.drop k)[j] := fun j hj => by
  rw [List.length_drop] at hj
  have := h (k + j) (by omega)
  rw [List.getElem_drop]
  unfold At4 at this ⊢
  rw [show o + k * 4 + j * 4 = o + (k + j) * 4 by omega]
  exact this
set_option maxRecDepth 100000 in
set_option maxHeartbeats 8000000 in
theorem First_any (v : Value) (l : List Po) (w : World) (h : PR w v l) (hl : l.length ≤ 100000) :
    Calls Tryd.prog 13 #[v] w fun e w' => e = .returned (.tuple #[.int .i64 (firstP 0 l).1, .int .i64 (firstP 0 l).2.1, .bool (firstP 0 l).2.2]) ∧ Below w.heap.size w w' := by
  obtain ⟨a, cap, rfl, h1, h2, h3⟩ := h
  obtain ⟨R, hR⟩ : ∃ R, firstP 0 l = R := ⟨_, rfl⟩
  have HR : Hid (firstP 0 (l.drop 0) = R) := Lib.hid hR
  rw [hR]
  have H3 := Lib.hid h3
  obtain ⟨n, hn⟩ : ∃ n, l.length = n := ⟨_, rfl⟩
  have HN := Lib.hid hn
  rw [hn] at h1 hl ⊢
  unfold maxLen at h2
  clear h3 hR hn
  go_enter Tryd.func13, Tryd.ntmps13
  go_wp2
  go_loopw [5, 6, 7, 8, 11] (fun s5 s6 s7 s8 s11 wr => ∃ k : Nat, k ≤ n ∧ s11 = .int .i64 (k : Int) ∧ Hid (Below w.heap.size w wr) ∧ Hid (firstP k (l.drop k) = R)) (fun _ _ _ _ si _ => n - (intOf si).toNat)
  case atStart => exact ⟨0, Nat.zero_le _, rfl, Lib.hid (Below.refl _ _), HR⟩
  case round =>
    obtain ⟨k, hk, rfl, HB, HK⟩ := hrel
    by_cases hlt : k < n
    · have hkl : Hid (k < l.length) := Lib.hid (by rw [HN.out]; exact hlt)
      have hkz : (k : Int) < (n : Int) := by omega
      have kw : IntKind.i64.wrap ((k : Int) + 1) = (k : Int) + 1 := IntWalk.i64_in _ (by omega)
      rcases H3.out with ⟨h0, _⟩ | ⟨b, o, rfl, hb, hat⟩
      · exact absurd hkl.out (by rw [h0]; exact Nat.not_lt_zero _)
      have hbr : b < wr.heap.size := Nat.lt_of_lt_of_le hb HB.out.size
      have HAT : Hid (∀ j (h : j < l.length), At4 wr b o j l[j]) := Lib.hid (fun j hj => (hat j hj).below hb (HB.out.mono (by omega)))
      clear hat
      obtain ⟨p, hp⟩ : ∃ p, l[k]'hkl.out = p := ⟨_, rfl⟩
      have HP := Lib.hid hp
      have hc := HAT.out k hkl.out
      rw [hp] at hc
      obtain ⟨c0, c1, c2, c3⟩ := hc
      clear hp
      have HIX : Hid (∀ A c, (A = some ⟨b, o + (k + 1) * 4, none⟩ ∨ (k + 1 = n ∧ A = some ⟨b, o, none⟩)) → Calls Tryd.prog 28 #[.slice A (n - (k + 1)) c, .func (.func 29) #[] #[.pointer (some ⟨wr.heap.size, 0, none⟩)]] (wr.alloc (.cells #[.string (ba p.host), .int .i64 p.out, .int .i64 p.inn, .string (ba p.proto)] 24)) fun e w' => e = .returned (.int .i64 (idxI (clashB p) (l.drop (k + 1)))) ∧ Below w.heap.size w w') := Lib.hid (fun A c hA => by
        have hal := one_belowP wr (.cells #[.string (ba p.host), .int .i64 p.out, .int .i64 p.inn, .string (ba p.proto)] 24)
        have hlen : (l.drop (k + 1)).length = n - (k + 1) := by rw [List.length_drop, HN.out]
        have hcs := drop_at HAT.out (k + 1)
        rw [← hlen]
        rcases hA with rfl | ⟨e, rfl⟩
        · exact (idxF_any p wr.heap.size b _ c _ _ (bxP_new wr p) (by omega) (by simp; omega) (fun j hj => (hcs j hj).below hbr hal)).mono fun e w' ⟨e1, e2⟩ => ⟨e1, HB.out.trans ((hal.trans (e2.mono hal.size)).mono HB.out.size)⟩
        · exact (idxF_any p wr.heap.size b _ c _ _ (bxP_new wr p) (by omega) (by simp; omega) (fun j hj => absurd hj (by omega))).mono fun e w' ⟨e1, e2⟩ => ⟨e1, HB.out.trans ((hal.trans (e2.mono hal.size)).mono HB.out.size)⟩)
      obtain ⟨ix, hix⟩ : ∃ ix, idxI (clashB p) (l.drop (k + 1)) = ix := ⟨_, rfl⟩
      have HIXE : Hid (idxI (clashB (l[k]'hkl.out)) (l.drop (k + 1)) = ix) := Lib.hid (by rw [HP.out]; exact hix)
      have hixb : ix = -1 ∨ (0 ≤ ix ∧ ix < 100000) := by
        have := idxI_lt (clashB p) (l.drop (k + 1))
        rw [hix, List.length_drop, HN.out] at this
        omega
      rw [hix] at HIX
      clear hix HAT
      obtain ⟨x0, hx0⟩ : ∃ x0, ba p.host = x0 := ⟨_, rfl⟩
      obtain ⟨x1, hx1⟩ : ∃ x1, p.out = x1 := ⟨_, rfl⟩
      obtain ⟨x2, hx2⟩ : ∃ x2, p.inn = x2 := ⟨_, rfl⟩
      obtain ⟨x3, hx3⟩ : ∃ x3, ba p.proto = x3 := ⟨_, rfl⟩
      rw [hx0, hx1, hx2, hx3] at HIX
      rw [hx0] at c0
      rw [hx1] at c1
      rw [hx2] at c2
      rw [hx3] at c3
      clear hx0 hx1 hx2 hx3
      have HNX : ix = -1 → Hid (firstP (k + 1) (l.drop (k + 1)) = R) := fun hx => Lib.hid (by rw [← firstP_miss (h := hkl.out) (by rw [HIXE.out, hx])]; exact HK.out)
      have HYX : 0 ≤ ix → Hid (((k : Int), (k : Int) + 1 + ix, true) = R) := fun hx => Lib.hid (by rw [← firstP_hit (h := hkl.out) HIXE.out hx]; exact HK.out)
      clear HIXE
      rcases hixb with hx | ⟨hx, hy⟩
      · subst hx
        have HN1 := HNX rfl
        clear HNX HYX
        by_cases hcap : cap = k + 1
        all_goals
          go_wp2_with (go_at_call 28; refine (HIX.out _ _ (by first | exact .inl rfl | exact .inr ⟨by omega, rfl⟩)).mono ?_; rintro e w2 ⟨rfl, hb2⟩; have HB2 := Lib.hid hb2; clear hb2 hcap)
          go_roundw
          case rel => exact ⟨k + 1, by omega, by go_num, HB2, HN1⟩
          case measure => simp [intOf]; omega
      · have HY1 := HYX hx
        have kw2 : IntKind.i64.wrap ((k : Int) + 1 + ix) = (k : Int) + 1 + ix := IntWalk.i64_in _ (by omega)
        clear HNX HYX
        by_cases hcap : cap = k + 1
        all_goals
          go_wp2_with (go_at_call 28; refine (HIX.out _ _ (by first | exact .inl rfl | exact .inr ⟨by omega, rfl⟩)).mono ?_; rintro e w2 ⟨rfl, hb2⟩; have HB2 := Lib.hid hb2; clear hb2 hcap)
          go_ret3
          exact ⟨by rw [← HY1.out]; rfl, HB2.out⟩
    · obtain rfl : k = n := by omega
      have HE : Hid (((0 : Int), (0 : Int), false) = R) := Lib.hid (by
        have := HK.out
        rw [List.drop_of_length_le (by rw [HN.out]; exact Nat.le_refl _)] at this
        exact this)
      clear HK
      go_wp2
      go_ret3
      exact ⟨by rw [← HE.out]; rfl, HB.out⟩
end Go.Proofs.YtkgfinhepbipeaaDoor
