/- EnvLaw4 -/
import Derived.Laws.Cover1
import Derived.Test.YtgdejjkiiaodkaaGreatDoorOT25
import Derived.Test.YtgdejjkiiaodkaaGreatDoorOT26
set_option linter.unusedVariables false
set_option linter.unusedSimpArgs false
set_option maxRecDepth 100000
set_option maxHeartbeats 16000000
open Go.Lib (hid)
namespace Go.Proofs.YtgdejjkiiaodkaaGreatDoor
section
open Go.RowKit Go.Sort
open Nw V12 Q6
theorem fewV_30 {l : List KV} (h : fewV l 30) : small100 l ∧ l.length ≤ 30 := ⟨fewV_small h (by decide), by have := h.1; omega⟩
theorem of_30 {l : List KV} (h : l.length ≤ 30) : (ofV l).length ≤ 30 := Nat.le_trans (of_len l).2 h
theorem small_both {x y : List KV} (h : small100 x) (h2 : small100 y) (hx : x.length ≤ 30) (hy : y.length ≤ 30) : small100 (x ++ y) := ⟨by rw [List.length_append]; omega, fun p hp => by
 rcases List.mem_append.1 hp with hp | hp
 ·exact h.2 p hp
 ·exact h2.2 p hp⟩
theorem got_over {x y : List KV} (hx : EnvOk x) (hy : EnvOk y) (lx : x.length ≤ 30) (ly : y.length ≤ 30) (k : L8) :
  (gotB y k = true → gotV (ofV (x ++ y)) k = gotV y k ∧ gotB (ofV (x ++ y)) k = true) ∧ (gotB y k = false → gotV (ofV (x ++ y)) k = gotV x k ∧ gotB (ofV (x ++ y)) k = gotB x k) := by
 have e : lastV (ofV (x ++ y)) k = match lastV y k with | some v => some v | none => lastV x k := by
  rw [of_few (by rw [List.length_append]; omega)]
  exact over_get hx hy k
 unfold gotV gotB
 rw [e]
 cases hq : lastV y k with
 | none => exact ⟨fun h => (by cases h), fun _ => ⟨rfl, rfl⟩⟩
 | some v => exact ⟨fun _ => ⟨rfl, rfl⟩, fun h => (by cases h)⟩
theorem textV_size {l : List KV} (h : ∀ p ∈ l, p.1.length ≤ 100 ∧ p.2.length ≤ 100) : (textV l).length ≤ 504 * l.length := by
 induction l with
 | nil => exact Nat.le_refl _
 | cons p l ih =>
  have e : textV (p :: l) = (rowV p ++ [10]) ++ textV l := by unfold textV; simp
  have h1 := h p List.mem_cons_self
  have h2 := ih fun q hq => h q (List.mem_cons_of_mem _ hq)
  have h3 := dblL_len p.2
  rw [e, List.length_append, List.length_append, List.length_cons]
  unfold rowV
  rw [List.length_append, List.length_cons]
  simp only [List.length_cons, List.length_nil]
  omega
section
variable (Pw : World → Prop) (hPw : ∀ w w', Pw w → Below w.heap.size w w' → Pw w')
variable (HParse : ∀ (s : ByteArray) (W : World), Pw W → s.size ≤ 100000 → Calls Tryz.prog 16 #[.string s] W (GivesPar (parV s.data.toList) W))
variable (HOf : ∀ (v : Value) (l : List KV) (W : World), Pw W → VR W v l → small100 l → Calls Tryz.prog 12 #[v] W (GivesV (ofV l) W))
variable (HOver : ∀ (v u : Value) (x y : List KV) (W : World), Pw W → VR W v x → VR W u y → EnvOk x → EnvOk y → small100 x → small100 y → x.length ≤ 64 → y.length ≤ 64 → Calls Tryz.prog 13 #[v, u] W (GivesV (ofV (x ++ y)) W))
variable (HGet : ∀ (v : Value) (x : List KV) (k : ByteArray) (W : World), Pw W → VR W v x → EnvOk x → small100 x → x.length ≤ 64 → k.size ≤ maxLen → Calls Tryz.prog 9 #[v, .string k] W fun e w' => e = .returned (.tuple #[.string (gotV x k.data.toList), .bool (gotB x k.data.toList)]) ∧ Below W.heap.size W w')
variable (HText : ∀ (v : Value) (x : List KV) (T : ByteArray) (W : World), Pw W → VR W v x → EnvOk x → small100 x → x.length ≤ 64 → textV x = T.data.toList → Calls Tryz.prog 14 #[v] W fun e w' => e = .returned (.string T) ∧ Below W.heap.size W w')
include hPw HParse HOf HOver HGet HText
theorem EnvOver_walk (v1 v2 : Value) (l m : List KV) (k : ByteArray) (w : World) (hw : Pw w) (hl : VR w v1 l) (hm : VR w v2 m) (okl : KVok l) (okm : KVok m) (hk : k.size ≤ maxLen) :
  Calls Tryz.prog 5 #[v1, v2, .string k] w fun e w' => e = .returned (.bool true) ∧ Below w.heap.size w w' := by
 have HAW := hid (fun W hW => Awake12 Pw hPw HParse W hW)
 have HW := hid hw
 have HP := hid hPw
 have HL := hid hl
 have HM := hid hm
 have F1 := hid (Few12_any v1 l 30 w hl okl)
 have F2 := hid (Few12_any v2 m 30 w hm okm)
 clear hw hPw hl hm okl okm
 by_cases f1 : fewV l 30
 ·rw [decide_eq_true f1] at F1
  by_cases f2 : fewV m 30
  ·rw [decide_eq_true f2] at F2
   have s1 := hid (fewV_30 f1)
   have s2 := hid (fewV_30 f2)
   have t1 := hid (of_small s1.out.1)
   have t2 := hid (of_small s2.out.1)
   have x1 := hid (of_ok l)
   have x2 := hid (of_ok m)
   have n1 := hid (of_30 s1.out.2)
   have n2 := hid (of_30 s2.out.2)
   have COf := hid HOf
   have COver := hid HOver
   have CGet := hid HGet
   have CText := hid HText
   have BB : Hid (Below w.heap.size w w) := hid (Below.refl _ _)
   obtain ⟨X, hX⟩ : ∃ X, ofV l = X := ⟨_, rfl⟩
   obtain ⟨Y, hY⟩ : ∃ Y, ofV m = Y := ⟨_, rfl⟩
   have HX := hid hX
   have HY := hid hY
   rw [hX] at t1 x1 n1
   rw [hY] at t2 x2 n2
   have GO := hid (got_over x1.out x2.out n1.out n2.out k.data.toList)
   have l1 : Hid (X.length ≤ 64) := hid (by have := n1.out; omega)
   have l2 : Hid (Y.length ≤ 64) := hid (by have := n2.out; omega)
   have ez := hid (of_ok (X ++ Y))
   have tz := hid (of_small (small_both t1.out t2.out n1.out n2.out))
   have nz : Hid ((ofV (X ++ Y)).length ≤ 60) := hid (Nat.le_trans (of_len (X ++ Y)).2 (by rw [List.length_append]; have := n1.out; have := n2.out; omega))
   obtain ⟨Z, hZ⟩ : ∃ Z, ofV (X ++ Y) = Z := ⟨_, rfl⟩
   have HZ := hid hZ
   rw [hZ] at ez tz nz GO
   have lz : Hid (Z.length ≤ 64) := hid (by have := nz.out; omega)
   obtain ⟨T, hT⟩ : ∃ T : ByteArray, textV Z = T.data.toList := ⟨⟨(textV Z).toArray⟩, toList_arr.symm⟩
   have HT := hid hT
   have hTs : T.size ≤ 100000 := by
    have := textV_size tz.out.2
    rw [hT, len_eq] at this
    have := nz.out
    omega
   have HPT := hid (fun W hW => HParse T W hW hTs)
   have HTL := hid (len_eq T)
   obtain ⟨qz, hqz⟩ : ∃ g, gotV Z k.data.toList = g := ⟨_, rfl⟩
   obtain ⟨bz, hbz⟩ : ∃ g, gotB Z k.data.toList = g := ⟨_, rfl⟩
   obtain ⟨qy, hqy⟩ : ∃ g, gotV Y k.data.toList = g := ⟨_, rfl⟩
   obtain ⟨by_, hby⟩ : ∃ g, gotB Y k.data.toList = g := ⟨_, rfl⟩
   obtain ⟨qx, hqx⟩ : ∃ g, gotV X k.data.toList = g := ⟨_, rfl⟩
   obtain ⟨bx, hbx⟩ : ∃ g, gotB X k.data.toList = g := ⟨_, rfl⟩
   have HQZ := hid (And.intro hqz hbz)
   have HQY := hid (And.intro hqy hby)
   have HQX := hid (And.intro hqx hbx)
   rw [hqz, hbz, hqy, hby, hqx, hbx] at GO
   have eqs := ba_same (x := qz)
   have eqb : (bz == bz) = true := by cases bz <;> rfl
   have hend : ∃ q b, (by_ = true ∧ q = qy ∧ b = true ∨ by_ = false ∧ q = qx ∧ b = bx) ∧ q = qz ∧ b = bz := by
    cases by_ with
    | true => exact ⟨qy, true, .inl ⟨rfl, rfl, rfl⟩, (GO.out.1 rfl).1.symm, (GO.out.1 rfl).2.symm⟩
    | false => exact ⟨qx, bx, .inr ⟨rfl, rfl, rfl⟩, (GO.out.2 rfl).1.symm, (GO.out.2 rfl).2.symm⟩
   clear f1 f2 hX hY hZ hT hqz hbz hqy hby hqx hbx HOf HOver HGet HText HParse
   obtain ⟨q, b, hcase, rfl, rfl⟩ := hend
   rcases hcase with ⟨rfl, rfl, rfl⟩ | ⟨rfl, rfl, rfl⟩
   ·go_enter Tryz.func5, Tryz.ntmps5
    go_wp2_with first
     | (go_at_call 6; with_reducible refine F1.out.mono ?_; rintro e w1 ⟨rfl, rfl⟩)
     | (go_at_call 6; with_reducible refine F2.out.mono ?_; rintro e w1 ⟨rfl, rfl⟩)
     | (go_at_call 12; (with_reducible refine (COf.out v1 l _ HW.out HL.out s1.out.1).mono ?_); rintro e w1 ⟨v3, rfl, h3, bb⟩; rw [HX.out] at h3; ((try replace HL := hid (HL.out.below bb)); (try replace HM := hid (HM.out.below bb)); (try replace V3 := hid (V3.out.below bb)); (try replace V4 := hid (V4.out.below bb)); (try replace VZ := hid (VZ.out.below bb)); (try replace VA := hid (VA.out.below bb)); replace HW := hid (HP.out _ _ HW.out bb); replace BB := hid (BB.out.trans (bb.mono BB.out.size)); clear bb); have V3 := hid h3; clear h3)
     | (go_at_call 12; (with_reducible refine (COf.out v2 m _ HW.out HM.out s2.out.1).mono ?_); rintro e w2 ⟨v4, rfl, h4, bb⟩; rw [HY.out] at h4; ((try replace HL := hid (HL.out.below bb)); (try replace HM := hid (HM.out.below bb)); (try replace V3 := hid (V3.out.below bb)); (try replace V4 := hid (V4.out.below bb)); (try replace VZ := hid (VZ.out.below bb)); (try replace VA := hid (VA.out.below bb)); replace HW := hid (HP.out _ _ HW.out bb); replace BB := hid (BB.out.trans (bb.mono BB.out.size)); clear bb); have V4 := hid h4; clear h4)
     | (go_at_call 13; refine (COver.out v3 v4 X Y _ HW.out V3.out V4.out x1.out x2.out t1.out t2.out l1.out l2.out).mono ?_; rintro e w9 ⟨vz, rfl, hz, bb⟩; rw [HZ.out] at hz; ((try replace HL := hid (HL.out.below bb)); (try replace HM := hid (HM.out.below bb)); (try replace V3 := hid (V3.out.below bb)); (try replace V4 := hid (V4.out.below bb)); (try replace VZ := hid (VZ.out.below bb)); (try replace VA := hid (VA.out.below bb)); replace HW := hid (HP.out _ _ HW.out bb); replace BB := hid (BB.out.trans (bb.mono BB.out.size)); clear bb); have VZ := hid hz; clear hz)
     | (go_at_call 9; (with_reducible refine (CGet.out vz Z k _ HW.out VZ.out ez.out tz.out lz.out hk).mono ?_); rintro e w5 ⟨rfl, bb⟩; rw [HQZ.out.1, HQZ.out.2]; ((try replace HL := hid (HL.out.below bb)); (try replace HM := hid (HM.out.below bb)); (try replace V3 := hid (V3.out.below bb)); (try replace V4 := hid (V4.out.below bb)); (try replace VZ := hid (VZ.out.below bb)); (try replace VA := hid (VA.out.below bb)); replace HW := hid (HP.out _ _ HW.out bb); replace BB := hid (BB.out.trans (bb.mono BB.out.size)); clear bb))
     | (go_at_call 9; (with_reducible refine (CGet.out v4 Y k _ HW.out V4.out x2.out t2.out l2.out hk).mono ?_); rintro e w5b ⟨rfl, bb⟩; rw [HQY.out.1, HQY.out.2]; ((try replace HL := hid (HL.out.below bb)); (try replace HM := hid (HM.out.below bb)); (try replace V3 := hid (V3.out.below bb)); (try replace V4 := hid (V4.out.below bb)); (try replace VZ := hid (VZ.out.below bb)); (try replace VA := hid (VA.out.below bb)); replace HW := hid (HP.out _ _ HW.out bb); replace BB := hid (BB.out.trans (bb.mono BB.out.size)); clear bb))
     | (go_at_call 9; (with_reducible refine (CGet.out v3 X k _ HW.out V3.out x1.out t1.out l1.out hk).mono ?_); rintro e w5c ⟨rfl, bb⟩; rw [HQX.out.1, HQX.out.2]; ((try replace HL := hid (HL.out.below bb)); (try replace HM := hid (HM.out.below bb)); (try replace V3 := hid (V3.out.below bb)); (try replace V4 := hid (V4.out.below bb)); (try replace VZ := hid (VZ.out.below bb)); (try replace VA := hid (VA.out.below bb)); replace HW := hid (HP.out _ _ HW.out bb); replace BB := hid (BB.out.trans (bb.mono BB.out.size)); clear bb))
    obtain ⟨az, capz, ev, hz1, hz2, hz3⟩ := VZ.out
    subst ev
    have H3 := hid hz3
    have hz4 := lz.out
    unfold maxLen at hz2
    obtain ⟨n, hn⟩ : ∃ n, n = Z.length := ⟨_, rfl⟩
    have HN := hid hn
    rw [← hn] at hz1 hz4 VZ ⊢
    clear hn hz3
    go_loopw [14] (fun i wr => ∃ p : Nat, (p + 1 ≤ n ∨ p = 0) ∧ i = .int .i64 ((p : Int) + 1) ∧ Hid (Below w5b.heap.size w5b wr)) (fun i _ => n + 1 - (intOf i).toNat)
    case atStart => exact ⟨0, .inr rfl, rfl, hid (Below.refl _ _)⟩
    case round =>
     obtain ⟨p, hp2, rfl, HB⟩ := hrel
     by_cases hlt : p + 1 < n
     ·rcases H3.out with ⟨e, _⟩ | ⟨b, o, rfl, h4, h5⟩
      ·have := HN.out; rw [e] at this; exact absurd hlt (by rw [this]; exact Nat.not_lt_zero _)
      have hp1 : Hid (p + 1 < Z.length) := hid (by have := HN.out; omega)
      have hp0 : Hid (p < Z.length) := hid (by have := hp1.out; omega)
      have hc := (HB.out.cell (p := ⟨b, o + p * 2, none⟩) h4).trans (h5 p hp0.out).1
      have hd := (HB.out.cell (p := ⟨b, o + (p + 1) * 2, none⟩) h4).trans (h5 (p + 1) hp1.out).1
      have hless := asc_keys ez.out hp1.out
      have t1 := less_true hless
      clear h5 hless
      generalize ba (Z[p]'(by have := hp1.out; omega)).1 = K1 at hc t1
      generalize ba (Z[p + 1]'hp1.out).1 = K2 at hd t1
      have hltz : (p : Int) + 1 < (n : Int) := by omega
      have hpz : (p : Int) < (n : Int) := by omega
      have hpn : p < n := by omega
      have i1 : (0 : Int) ≤ (p : Int) + 1 := by omega
      have i2 : ((p : Int) + 1).toNat = p + 1 := by omega
      have i3 : IntKind.i64.wrap (p : Int) = (p : Int) := wrap_small _ (by omega) (by omega)
      have i4 : (0 : Int) ≤ (p : Int) := by omega
      go_wp2
      go_quiet (fail)
      go_wp2
      go_roundw
      case rel => exact ⟨p + 1, .inl (by omega), by go_num, hid (HB.out.trans ((below_drewN _ _).mono HB.out.size))⟩
      case measure => simp [intOf]; omega
     ·have hltz : ¬ (p : Int) + 1 < (n : Int) := by omega
      have bb := HB.out
      ((try replace HL := hid (HL.out.below bb)); (try replace HM := hid (HM.out.below bb)); (try replace V3 := hid (V3.out.below bb)); (try replace V4 := hid (V4.out.below bb)); (try replace VZ := hid (VZ.out.below bb)); (try replace VA := hid (VA.out.below bb)); replace HW := hid (HP.out _ _ HW.out bb); replace BB := hid (BB.out.trans (bb.mono BB.out.size)); clear bb)
      clear hlt hp2 HB H3
      by_cases hbig : 8192 < T.size
      ·have hbz : (8192 : Int) < (T.size : Int) := by omega
       have HPP : Hid (∀ W, Pw W → Calls Tryz.prog 16 #[.string T] W fun e w' => ∃ v, e = .returned (.tuple #[v, .int .i64 0, .int .i64 9]) ∧ Below W.heap.size W w') := hid (fun W h => by
        refine (HPT.out W h).mono ?_
        rintro e w' ⟨v, he, hv, hb⟩
        rw [par_long (by rw [HTL.out]; exact hbig)] at he hv
        exact ⟨v, he, hb⟩)
       clear hbig
       go_wp2_with first
        | (go_at_call 14; refine (CText.out _ Z T _ HW.out VZ.out ez.out tz.out lz.out HT.out).mono ?_; rintro e w6 ⟨rfl, bb⟩; ((try replace HL := hid (HL.out.below bb)); (try replace HM := hid (HM.out.below bb)); (try replace V3 := hid (V3.out.below bb)); (try replace V4 := hid (V4.out.below bb)); (try replace VZ := hid (VZ.out.below bb)); (try replace VA := hid (VA.out.below bb)); replace HW := hid (HP.out _ _ HW.out bb); replace BB := hid (BB.out.trans (bb.mono BB.out.size)); clear bb))
        | (go_at_call 16; refine (HPP.out _ HW.out).mono ?_; rintro e w7 ⟨vp, rfl, bb⟩; ((try replace HL := hid (HL.out.below bb)); (try replace HM := hid (HM.out.below bb)); (try replace V3 := hid (V3.out.below bb)); (try replace V4 := hid (V4.out.below bb)); (try replace VZ := hid (VZ.out.below bb)); (try replace VA := hid (VA.out.below bb)); replace HW := hid (HP.out _ _ HW.out bb); replace BB := hid (BB.out.trans (bb.mono BB.out.size)); clear bb))
        | (go_at_call 7; refine (HAW.out _ HW.out).mono ?_; rintro e w8 ⟨rfl, bb⟩; ((try replace HL := hid (HL.out.below bb)); (try replace HM := hid (HM.out.below bb)); (try replace V3 := hid (V3.out.below bb)); (try replace V4 := hid (V4.out.below bb)); (try replace VZ := hid (VZ.out.below bb)); (try replace VA := hid (VA.out.below bb)); replace HW := hid (HP.out _ _ HW.out bb); replace BB := hid (BB.out.trans (bb.mono BB.out.size)); clear bb))
       go_ret
       exact ⟨rfl, BB.out⟩
      ·have hbz : ¬ (8192 : Int) < (T.size : Int) := by omega
       have HPP : Hid (∀ W, Pw W → Calls Tryz.prog 16 #[.string T] W fun e w' => ∃ v, e = .returned (.tuple #[v, .int .i64 0, .int .i64 0]) ∧ VR w' v Z ∧ Below W.heap.size W w') := hid (fun W h => by
        refine (HPT.out W h).mono ?_
        rintro e w' ⟨v, he, hv, hb⟩
        rw [← HT.out, par_text ez.out lz.out (by rw [HT.out, HTL.out]; omega)] at he hv
        exact ⟨v, he, hv, hb⟩)
       clear hbig
       go_wp2_with first
        | (go_at_call 14; refine (CText.out _ Z T _ HW.out VZ.out ez.out tz.out lz.out HT.out).mono ?_; rintro e w6 ⟨rfl, bb⟩; ((try replace HL := hid (HL.out.below bb)); (try replace HM := hid (HM.out.below bb)); (try replace V3 := hid (V3.out.below bb)); (try replace V4 := hid (V4.out.below bb)); (try replace VZ := hid (VZ.out.below bb)); (try replace VA := hid (VA.out.below bb)); replace HW := hid (HP.out _ _ HW.out bb); replace BB := hid (BB.out.trans (bb.mono BB.out.size)); clear bb))
        | (go_at_call 16; refine (HPP.out _ HW.out).mono ?_; rintro e w7 ⟨vp, rfl, hvp, bb⟩; ((try replace HL := hid (HL.out.below bb)); (try replace HM := hid (HM.out.below bb)); (try replace V3 := hid (V3.out.below bb)); (try replace V4 := hid (V4.out.below bb)); (try replace VZ := hid (VZ.out.below bb)); (try replace VA := hid (VA.out.below bb)); replace HW := hid (HP.out _ _ HW.out bb); replace BB := hid (BB.out.trans (bb.mono BB.out.size)); clear bb); have VA := hid hvp; clear hvp)
        | (go_at_call 11; refine (RSame12_any vp _ Z Z _ VA.out VZ.out).mono ?_; rintro e w9 ⟨rfl, bb⟩; ((try replace HL := hid (HL.out.below bb)); (try replace HM := hid (HM.out.below bb)); (try replace V3 := hid (V3.out.below bb)); (try replace V4 := hid (V4.out.below bb)); (try replace VZ := hid (VZ.out.below bb)); (try replace VA := hid (VA.out.below bb)); replace HW := hid (HP.out _ _ HW.out bb); replace BB := hid (BB.out.trans (bb.mono BB.out.size)); clear bb); rw [decide_eq_true rfl])
        | (go_at_call 7; refine (HAW.out _ HW.out).mono ?_; rintro e w8 ⟨rfl, bb⟩; ((try replace HL := hid (HL.out.below bb)); (try replace HM := hid (HM.out.below bb)); (try replace V3 := hid (V3.out.below bb)); (try replace V4 := hid (V4.out.below bb)); (try replace VZ := hid (VZ.out.below bb)); (try replace VA := hid (VA.out.below bb)); replace HW := hid (HP.out _ _ HW.out bb); replace BB := hid (BB.out.trans (bb.mono BB.out.size)); clear bb))
       go_ret
       exact ⟨rfl, BB.out⟩
   ·go_enter Tryz.func5, Tryz.ntmps5
    go_wp2_with first
     | (go_at_call 6; with_reducible refine F1.out.mono ?_; rintro e w1 ⟨rfl, rfl⟩)
     | (go_at_call 6; with_reducible refine F2.out.mono ?_; rintro e w1 ⟨rfl, rfl⟩)
     | (go_at_call 12; (with_reducible refine (COf.out v1 l _ HW.out HL.out s1.out.1).mono ?_); rintro e w1 ⟨v3, rfl, h3, bb⟩; rw [HX.out] at h3; ((try replace HL := hid (HL.out.below bb)); (try replace HM := hid (HM.out.below bb)); (try replace V3 := hid (V3.out.below bb)); (try replace V4 := hid (V4.out.below bb)); (try replace VZ := hid (VZ.out.below bb)); (try replace VA := hid (VA.out.below bb)); replace HW := hid (HP.out _ _ HW.out bb); replace BB := hid (BB.out.trans (bb.mono BB.out.size)); clear bb); have V3 := hid h3; clear h3)
     | (go_at_call 12; (with_reducible refine (COf.out v2 m _ HW.out HM.out s2.out.1).mono ?_); rintro e w2 ⟨v4, rfl, h4, bb⟩; rw [HY.out] at h4; ((try replace HL := hid (HL.out.below bb)); (try replace HM := hid (HM.out.below bb)); (try replace V3 := hid (V3.out.below bb)); (try replace V4 := hid (V4.out.below bb)); (try replace VZ := hid (VZ.out.below bb)); (try replace VA := hid (VA.out.below bb)); replace HW := hid (HP.out _ _ HW.out bb); replace BB := hid (BB.out.trans (bb.mono BB.out.size)); clear bb); have V4 := hid h4; clear h4)
     | (go_at_call 13; refine (COver.out v3 v4 X Y _ HW.out V3.out V4.out x1.out x2.out t1.out t2.out l1.out l2.out).mono ?_; rintro e w9 ⟨vz, rfl, hz, bb⟩; rw [HZ.out] at hz; ((try replace HL := hid (HL.out.below bb)); (try replace HM := hid (HM.out.below bb)); (try replace V3 := hid (V3.out.below bb)); (try replace V4 := hid (V4.out.below bb)); (try replace VZ := hid (VZ.out.below bb)); (try replace VA := hid (VA.out.below bb)); replace HW := hid (HP.out _ _ HW.out bb); replace BB := hid (BB.out.trans (bb.mono BB.out.size)); clear bb); have VZ := hid hz; clear hz)
     | (go_at_call 9; (with_reducible refine (CGet.out vz Z k _ HW.out VZ.out ez.out tz.out lz.out hk).mono ?_); rintro e w5 ⟨rfl, bb⟩; rw [HQZ.out.1, HQZ.out.2]; ((try replace HL := hid (HL.out.below bb)); (try replace HM := hid (HM.out.below bb)); (try replace V3 := hid (V3.out.below bb)); (try replace V4 := hid (V4.out.below bb)); (try replace VZ := hid (VZ.out.below bb)); (try replace VA := hid (VA.out.below bb)); replace HW := hid (HP.out _ _ HW.out bb); replace BB := hid (BB.out.trans (bb.mono BB.out.size)); clear bb))
     | (go_at_call 9; (with_reducible refine (CGet.out v4 Y k _ HW.out V4.out x2.out t2.out l2.out hk).mono ?_); rintro e w5b ⟨rfl, bb⟩; rw [HQY.out.1, HQY.out.2]; ((try replace HL := hid (HL.out.below bb)); (try replace HM := hid (HM.out.below bb)); (try replace V3 := hid (V3.out.below bb)); (try replace V4 := hid (V4.out.below bb)); (try replace VZ := hid (VZ.out.below bb)); (try replace VA := hid (VA.out.below bb)); replace HW := hid (HP.out _ _ HW.out bb); replace BB := hid (BB.out.trans (bb.mono BB.out.size)); clear bb))
     | (go_at_call 9; (with_reducible refine (CGet.out v3 X k _ HW.out V3.out x1.out t1.out l1.out hk).mono ?_); rintro e w5c ⟨rfl, bb⟩; rw [HQX.out.1, HQX.out.2]; ((try replace HL := hid (HL.out.below bb)); (try replace HM := hid (HM.out.below bb)); (try replace V3 := hid (V3.out.below bb)); (try replace V4 := hid (V4.out.below bb)); (try replace VZ := hid (VZ.out.below bb)); (try replace VA := hid (VA.out.below bb)); replace HW := hid (HP.out _ _ HW.out bb); replace BB := hid (BB.out.trans (bb.mono BB.out.size)); clear bb))
    obtain ⟨az, capz, ev, hz1, hz2, hz3⟩ := VZ.out
    subst ev
    have H3 := hid hz3
    have hz4 := lz.out
    unfold maxLen at hz2
    obtain ⟨n, hn⟩ : ∃ n, n = Z.length := ⟨_, rfl⟩
    have HN := hid hn
    rw [← hn] at hz1 hz4 VZ ⊢
    clear hn hz3
    go_loopw [14] (fun i wr => ∃ p : Nat, (p + 1 ≤ n ∨ p = 0) ∧ i = .int .i64 ((p : Int) + 1) ∧ Hid (Below w5c.heap.size w5c wr)) (fun i _ => n + 1 - (intOf i).toNat)
    case atStart => exact ⟨0, .inr rfl, rfl, hid (Below.refl _ _)⟩
    case round =>
     obtain ⟨p, hp2, rfl, HB⟩ := hrel
     by_cases hlt : p + 1 < n
     ·rcases H3.out with ⟨e, _⟩ | ⟨b, o, rfl, h4, h5⟩
      ·have := HN.out; rw [e] at this; exact absurd hlt (by rw [this]; exact Nat.not_lt_zero _)
      have hp1 : Hid (p + 1 < Z.length) := hid (by have := HN.out; omega)
      have hp0 : Hid (p < Z.length) := hid (by have := hp1.out; omega)
      have hc := (HB.out.cell (p := ⟨b, o + p * 2, none⟩) h4).trans (h5 p hp0.out).1
      have hd := (HB.out.cell (p := ⟨b, o + (p + 1) * 2, none⟩) h4).trans (h5 (p + 1) hp1.out).1
      have hless := asc_keys ez.out hp1.out
      have t1 := less_true hless
      clear h5 hless
      generalize ba (Z[p]'(by have := hp1.out; omega)).1 = K1 at hc t1
      generalize ba (Z[p + 1]'hp1.out).1 = K2 at hd t1
      have hltz : (p : Int) + 1 < (n : Int) := by omega
      have hpz : (p : Int) < (n : Int) := by omega
      have hpn : p < n := by omega
      have i1 : (0 : Int) ≤ (p : Int) + 1 := by omega
      have i2 : ((p : Int) + 1).toNat = p + 1 := by omega
      have i3 : IntKind.i64.wrap (p : Int) = (p : Int) := wrap_small _ (by omega) (by omega)
      have i4 : (0 : Int) ≤ (p : Int) := by omega
      go_wp2
      go_quiet (fail)
      go_wp2
      go_roundw
      case rel => exact ⟨p + 1, .inl (by omega), by go_num, hid (HB.out.trans ((below_drewN _ _).mono HB.out.size))⟩
      case measure => simp [intOf]; omega
     ·have hltz : ¬ (p : Int) + 1 < (n : Int) := by omega
      have bb := HB.out
      ((try replace HL := hid (HL.out.below bb)); (try replace HM := hid (HM.out.below bb)); (try replace V3 := hid (V3.out.below bb)); (try replace V4 := hid (V4.out.below bb)); (try replace VZ := hid (VZ.out.below bb)); (try replace VA := hid (VA.out.below bb)); replace HW := hid (HP.out _ _ HW.out bb); replace BB := hid (BB.out.trans (bb.mono BB.out.size)); clear bb)
      clear hlt hp2 HB H3
      by_cases hbig : 8192 < T.size
      ·have hbz : (8192 : Int) < (T.size : Int) := by omega
       have HPP : Hid (∀ W, Pw W → Calls Tryz.prog 16 #[.string T] W fun e w' => ∃ v, e = .returned (.tuple #[v, .int .i64 0, .int .i64 9]) ∧ Below W.heap.size W w') := hid (fun W h => by
        refine (HPT.out W h).mono ?_
        rintro e w' ⟨v, he, hv, hb⟩
        rw [par_long (by rw [HTL.out]; exact hbig)] at he hv
        exact ⟨v, he, hb⟩)
       clear hbig
       go_wp2_with first
        | (go_at_call 14; refine (CText.out _ Z T _ HW.out VZ.out ez.out tz.out lz.out HT.out).mono ?_; rintro e w6 ⟨rfl, bb⟩; ((try replace HL := hid (HL.out.below bb)); (try replace HM := hid (HM.out.below bb)); (try replace V3 := hid (V3.out.below bb)); (try replace V4 := hid (V4.out.below bb)); (try replace VZ := hid (VZ.out.below bb)); (try replace VA := hid (VA.out.below bb)); replace HW := hid (HP.out _ _ HW.out bb); replace BB := hid (BB.out.trans (bb.mono BB.out.size)); clear bb))
        | (go_at_call 16; refine (HPP.out _ HW.out).mono ?_; rintro e w7 ⟨vp, rfl, bb⟩; ((try replace HL := hid (HL.out.below bb)); (try replace HM := hid (HM.out.below bb)); (try replace V3 := hid (V3.out.below bb)); (try replace V4 := hid (V4.out.below bb)); (try replace VZ := hid (VZ.out.below bb)); (try replace VA := hid (VA.out.below bb)); replace HW := hid (HP.out _ _ HW.out bb); replace BB := hid (BB.out.trans (bb.mono BB.out.size)); clear bb))
        | (go_at_call 7; refine (HAW.out _ HW.out).mono ?_; rintro e w8 ⟨rfl, bb⟩; ((try replace HL := hid (HL.out.below bb)); (try replace HM := hid (HM.out.below bb)); (try replace V3 := hid (V3.out.below bb)); (try replace V4 := hid (V4.out.below bb)); (try replace VZ := hid (VZ.out.below bb)); (try replace VA := hid (VA.out.below bb)); replace HW := hid (HP.out _ _ HW.out bb); replace BB := hid (BB.out.trans (bb.mono BB.out.size)); clear bb))
       go_ret
       exact ⟨rfl, BB.out⟩
      ·have hbz : ¬ (8192 : Int) < (T.size : Int) := by omega
       have HPP : Hid (∀ W, Pw W → Calls Tryz.prog 16 #[.string T] W fun e w' => ∃ v, e = .returned (.tuple #[v, .int .i64 0, .int .i64 0]) ∧ VR w' v Z ∧ Below W.heap.size W w') := hid (fun W h => by
        refine (HPT.out W h).mono ?_
        rintro e w' ⟨v, he, hv, hb⟩
        rw [← HT.out, par_text ez.out lz.out (by rw [HT.out, HTL.out]; omega)] at he hv
        exact ⟨v, he, hv, hb⟩)
       clear hbig
       go_wp2_with first
        | (go_at_call 14; refine (CText.out _ Z T _ HW.out VZ.out ez.out tz.out lz.out HT.out).mono ?_; rintro e w6 ⟨rfl, bb⟩; ((try replace HL := hid (HL.out.below bb)); (try replace HM := hid (HM.out.below bb)); (try replace V3 := hid (V3.out.below bb)); (try replace V4 := hid (V4.out.below bb)); (try replace VZ := hid (VZ.out.below bb)); (try replace VA := hid (VA.out.below bb)); replace HW := hid (HP.out _ _ HW.out bb); replace BB := hid (BB.out.trans (bb.mono BB.out.size)); clear bb))
        | (go_at_call 16; refine (HPP.out _ HW.out).mono ?_; rintro e w7 ⟨vp, rfl, hvp, bb⟩; ((try replace HL := hid (HL.out.below bb)); (try replace HM := hid (HM.out.below bb)); (try replace V3 := hid (V3.out.below bb)); (try replace V4 := hid (V4.out.below bb)); (try replace VZ := hid (VZ.out.below bb)); (try replace VA := hid (VA.out.below bb)); replace HW := hid (HP.out _ _ HW.out bb); replace BB := hid (BB.out.trans (bb.mono BB.out.size)); clear bb); have VA := hid hvp; clear hvp)
        | (go_at_call 11; refine (RSame12_any vp _ Z Z _ VA.out VZ.out).mono ?_; rintro e w9 ⟨rfl, bb⟩; ((try replace HL := hid (HL.out.below bb)); (try replace HM := hid (HM.out.below bb)); (try replace V3 := hid (V3.out.below bb)); (try replace V4 := hid (V4.out.below bb)); (try replace VZ := hid (VZ.out.below bb)); (try replace VA := hid (VA.out.below bb)); replace HW := hid (HP.out _ _ HW.out bb); replace BB := hid (BB.out.trans (bb.mono BB.out.size)); clear bb); rw [decide_eq_true rfl])
        | (go_at_call 7; refine (HAW.out _ HW.out).mono ?_; rintro e w8 ⟨rfl, bb⟩; ((try replace HL := hid (HL.out.below bb)); (try replace HM := hid (HM.out.below bb)); (try replace V3 := hid (V3.out.below bb)); (try replace V4 := hid (V4.out.below bb)); (try replace VZ := hid (VZ.out.below bb)); (try replace VA := hid (VA.out.below bb)); replace HW := hid (HP.out _ _ HW.out bb); replace BB := hid (BB.out.trans (bb.mono BB.out.size)); clear bb))
       go_ret
       exact ⟨rfl, BB.out⟩
  ·rw [decide_eq_false f2] at F2
   clear f1 f2 HOf HOver HGet HText HParse
   go_enter Tryz.func5, Tryz.ntmps5
   go_wp2_with first
    | (go_at_call 6; with_reducible refine F1.out.mono ?_; rintro e w1 ⟨rfl, rfl⟩)
    | (go_at_call 6; with_reducible refine F2.out.mono ?_; rintro e w1 ⟨rfl, rfl⟩)
    | (go_at_call 7; refine (HAW.out _ HW.out).mono ?_; rintro e w1 ⟨rfl, b1⟩)
   go_ret
   exact ⟨rfl, b1⟩
 ·rw [decide_eq_false f1] at F1
  clear f1 HOf HOver HGet HText HParse
  go_enter Tryz.func5, Tryz.ntmps5
  go_wp2_with first
   | (go_at_call 6; with_reducible refine F1.out.mono ?_; rintro e w1 ⟨rfl, rfl⟩)
   | (go_at_call 7; refine (HAW.out _ HW.out).mono ?_; rintro e w1 ⟨rfl, b1⟩)
  go_ret
  exact ⟨rfl, b1⟩
end
end
end Go.Proofs.YtgdejjkiiaodkaaGreatDoor
