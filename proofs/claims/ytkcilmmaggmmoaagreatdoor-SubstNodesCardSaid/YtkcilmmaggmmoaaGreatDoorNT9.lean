/- RefNod4 -/
import Derived.BigQuiet
import Derived.Deep.QuietTactic
import Derived.Deep.RegionHeld3
import Derived.Test.YtkcilmmaggmmoaaGreatDoorNT4
import Derived.Test.YtkcilmmaggmmoaaGreatDoorNT8
set_option linter.unusedVariables false
set_option linter.unusedSimpArgs false
set_option maxRecDepth 100000
set_option maxHeartbeats 16000000
open Go.Lib (hid)
namespace Go.Proofs.YtkcilmmaggmmoaaGreatDoor
namespace N8
end N8
namespace Nw
end Nw
end Go.Proofs.YtkcilmmaggmmoaaGreatDoor
namespace Go.Proofs.YtkcilmmaggmmoaaGreatDoor
section
open Go.RowKit Go.Sort
open Nw N8
theorem RSorted_slice (v : Value) (l : List L8) (w : World) (h : Rd w v l) (hbig : l.length ≤ 4398046511103) (n : Nat) (hn : (sortL l).length = n) :
  Calls Tryz.prog 29 #[v] w fun e w' => ∃ a cap, e = .returned (.slice a n cap) ∧ Below w.heap.size w w' :=
 (RSorted_own v l w h hbig).mono fun e w' ⟨v', he, ho, hb⟩ => by
  obtain ⟨a, cap, hv, _⟩ := rd_slice (rd_of_owns ho)
  exact ⟨a, cap, by rw [he, hv, hn], hb⟩
theorem leftT_range (d : Nd) (deep left : Int) : leftT d deep left = -1 ∨ (0 ≤ leftT d deep left ∧ leftT d deep left = left - (cntT d : Int)) := by
 by_cases h : 0 ≤ leftT d deep left
 ·exact .inr ⟨h, leftT_cnt d deep left h⟩
 ·left
  cases d with
  | mk k t ks ds =>
   rw [leftT] at h ⊢
   split
   ·rfl
   ·rename_i h1
    rw [if_neg h1] at h
    split
    ·rfl
    ·rename_i h2
     rw [if_neg h2] at h
     split
     ·rfl
     ·rename_i h3
      rw [if_neg h3] at h
      have key : ∀ (es : List Nd) (l : Int), 0 ≤ l → ¬ 0 ≤ leftL es (deep + 1) l → leftL es (deep + 1) l = -1 := by
       intro es
       induction es with
       | nil => intro l hl hh; rw [leftL] at hh; omega
       | cons e es ih =>
        intro l hl hh
        rw [leftL] at hh ⊢
        split
        ·rfl
        ·rename_i h4
         rw [if_neg h4] at hh
         exact ih _ (by omega) hh
      exact key ds _ (by omega) h
theorem leftL_next {ds : List Nd} {i : Nat} (h : i < ds.length) (deep L : Int) : leftL (ds.drop i) deep L = if leftT (ds[i]'h) deep L < 0 then -1 else leftL (ds.drop (i + 1)) deep (leftT (ds[i]'h) deep L) := by
 rw [List.drop_eq_getElem_cons h, leftL]
def SB (w W : World) (d : Nd) (c0 c1 c2 c3 : Value) : Prop := Boxed w W d c0 c1 c2 c3
theorem sB {w W : World} {d : Nd} {c0 c1 c2 c3 : Value} (h : Boxed w W d c0 c1 c2 c3) :
  W.cell? ⟨w.heap.size, 0, none⟩ = some c0 ∧ W.cell? ⟨w.heap.size, 1, none⟩ = some c1 ∧ W.cell? ⟨w.heap.size, 2, none⟩ = some c2 ∧ W.cell? ⟨w.heap.size, 3, none⟩ = some c3 ∧ SB w W d c0 c1 c2 c3 := by
 obtain ⟨x0, x1, x2, x3⟩ := h.2.1.cells
 exact ⟨x0, x1, x2, x3, h⟩
theorem sB_go {w W W' : World} {d : Nd} {c0 c1 c2 c3 : Value} (h : W.cell? ⟨w.heap.size, 0, none⟩ = some c0 ∧ W.cell? ⟨w.heap.size, 1, none⟩ = some c1 ∧ W.cell? ⟨w.heap.size, 2, none⟩ = some c2 ∧ W.cell? ⟨w.heap.size, 3, none⟩ = some c3 ∧ SB w W d c0 c1 c2 c3) (hb : Below W.heap.size W W') :
  W'.cell? ⟨w.heap.size, 0, none⟩ = some c0 ∧ W'.cell? ⟨w.heap.size, 1, none⟩ = some c1 ∧ W'.cell? ⟨w.heap.size, 2, none⟩ = some c2 ∧ W'.cell? ⟨w.heap.size, 3, none⟩ = some c3 ∧ SB w W' d c0 c1 c2 c3 := sB (Boxed.go h.2.2.2.2 hb)
theorem sB_boxed {w W : World} {d : Nd} {c0 c1 c2 c3 : Value} (h : W.cell? ⟨w.heap.size, 0, none⟩ = some c0 ∧ W.cell? ⟨w.heap.size, 1, none⟩ = some c1 ∧ W.cell? ⟨w.heap.size, 2, none⟩ = some c2 ∧ W.cell? ⟨w.heap.size, 3, none⟩ = some c3 ∧ SB w W d c0 c1 c2 c3) : Boxed w W d c0 c1 c2 c3 := h.2.2.2.2
theorem sB_keys {w W : World} {k : Int} {t : L8} {ks : List L8} {ds : List Nd} {c0 c1 c2 c3 : Value} (h : W.cell? ⟨w.heap.size, 0, none⟩ = some c0 ∧ W.cell? ⟨w.heap.size, 1, none⟩ = some c1 ∧ W.cell? ⟨w.heap.size, 2, none⟩ = some c2 ∧ W.cell? ⟨w.heap.size, 3, none⟩ = some c3 ∧ SB w W (.mk k t ks ds) c0 c1 c2 c3) : Rd W c2 ks := Boxed.keys h.2.2.2.2
def LeftOf (N : Nat) : Prop := ∀ (d : Nd), cntT d ≤ N → ∀ (deep left r : Int), 0 ≤ deep → deep ≤ 13 → 0 ≤ left → left ≤ 100000 → leftT d deep left = r → ∀ (c0 c1 c2 c3 : Value) (w : World), NdW w d c0 c1 c2 c3 →
  Calls Tryz.prog 14 #[.agg #[c0, c1, c2, c3], .int .i64 deep, .int .i64 left] w fun e w' => e = .returned (.int .i64 r) ∧ Below w.heap.size w w'
theorem form_no1 {k : Int} {t : L8} {ks : List L8} {n : Nat} (h : k ≠ 1) (ht : 0 < t.length) : formB k t ks n = false := by unfold formB; rw [decide_eq_true h, decide_eq_true ht]; rfl
theorem form_no2 {k : Int} {t : L8} {ks : List L8} {n : Nat} (h : k ≠ 3) (ht : 0 < ks.length) : formB k t ks n = false := by unfold formB; rw [decide_eq_true h, decide_eq_true ht]; simp
theorem form_no3 {k : Int} {t : L8} {ks : List L8} {n : Nat} (h : k < 2) (ht : 0 < n) : formB k t ks n = false := by unfold formB; rw [decide_eq_true h, decide_eq_true ht]; simp
theorem form_yes {k : Int} {t : L8} {ks : List L8} {n : Nat} (h1 : ¬ (k ≠ 1 ∧ 0 < t.length)) (h2 : ¬ (k ≠ 3 ∧ 0 < ks.length)) (h3 : ¬ (k < 2 ∧ 0 < n)) : formB k t ks n = true := by
 unfold formB
 rw [← Bool.decide_and, ← Bool.decide_and, ← Bool.decide_and, decide_eq_false h1, decide_eq_false h2, decide_eq_false h3]; rfl
theorem belowD (w : World) (q : Nat) : Below w.heap.size w (w.drewN q) := ⟨rfl, rfl, rfl, Nat.le_refl _, fun _ _ => rfl⟩
theorem left0_t (N : Nat) (ih : LeftOf N) (t : L8) (ks : List L8) (ds : List Nd) (hcN : cntL ds ≤ N) (deep left r : Int) (hd0 : 0 ≤ deep) (hd1 : deep ≤ 12) (hl0 : 1 ≤ left) (hl1 : left ≤ 100000) (hr : leftT (.mk 0 t ks ds) deep left = r) (ht : t ≠ []) (c0 c1 c2 c3 : Value) (w : World) (hd : NdW w (.mk 0 t ks ds) c0 c1 c2 c3) :
  Calls Tryz.prog 14 #[.agg #[c0, c1, c2, c3], .int .i64 deep, .int .i64 left] w fun e w' => e = .returned (.int .i64 r) ∧ Below w.heap.size w w' := by
 have HB0 := hid (Boxed.make hd)
 obtain ⟨rfl, rfl, hks, A, cap, rfl, hcap, hmx, _, _⟩ := hd.parts
 obtain ⟨a, kcap, rfl, hkc, hkm⟩ := rd_slice hks
 have HIH := hid ih
 have HCN := hid hcN
 rw [leftT, if_neg (by omega)] at hr
 unfold maxLen at hkm hmx
 obtain ⟨n, hn⟩ : ∃ n, ds.length = n := ⟨_, rfl⟩
 have HN := hid hn
 rw [hn] at HB0 hcap hr ⊢
 have hn63 : n ≤ 9223372036854775807 := by omega
 obtain ⟨m, hmm⟩ : ∃ m, ks.length = m := ⟨_, rfl⟩
 have HM := hid hmm
 rw [hmm] at HB0 hkc ⊢
 have hm63 : m ≤ 9223372036854775807 := by omega
 obtain ⟨T, hT⟩ : ∃ T, ba t = T := ⟨_, rfl⟩
 have HTS : Hid (T.size = t.length) := hid (by rw [← hT]; exact ba_size t)
 rw [hT] at HB0 ⊢
 have HR0 := hid hr
 have el : IntKind.i64.wrap (left - 1) = left - 1 := IntWalk.i64_in _ (by omega)
 have g0 : ¬ left - 1 < 0 := by omega
 have g1 : ¬ 12 < deep := by omega
 obtain ⟨x0, x1, x2, x3⟩ := HB0.out.2.1.cells
 clear ih hd hcN hks hr hn hmm hT
 have b1 : (0 : Int) < (T.size : Int) := by have := List.length_pos_iff.2 ht; have := HTS.out; omega
 have b1n : 0 < T.size := by omega
 have b1d : decide ((0 : Int) < (T.size : Int)) = true := decide_eq_true b1
 have b1e : ¬ T = ByteArray.empty := fun e => by rw [e] at b1n; exact absurd b1n (by decide)
 clear ht
 have HE : Hid (r = -1) := hid (by rw [← HR0.out, if_pos (form_no1 (by decide) (by have := HTS.out; omega))])
 go_enter Tryz.func14, Tryz.ntmps14
 go_wp2
 go_ret
 exact ⟨ret_int HE.out.symm, HB0.out.1⟩
theorem left0_k (N : Nat) (ih : LeftOf N) (ks : List L8) (ds : List Nd) (hcN : cntL ds ≤ N) (deep left r : Int) (hd0 : 0 ≤ deep) (hd1 : deep ≤ 12) (hl0 : 1 ≤ left) (hl1 : left ≤ 100000) (hr : leftT (.mk 0 [] ks ds) deep left = r) (hk : ks ≠ []) (c0 c1 c2 c3 : Value) (w : World) (hd : NdW w (.mk 0 [] ks ds) c0 c1 c2 c3) :
  Calls Tryz.prog 14 #[.agg #[c0, c1, c2, c3], .int .i64 deep, .int .i64 left] w fun e w' => e = .returned (.int .i64 r) ∧ Below w.heap.size w w' := by
 have HB0 := hid (Boxed.make hd)
 obtain ⟨rfl, rfl, hks, A, cap, rfl, hcap, hmx, _, _⟩ := hd.parts
 obtain ⟨a, kcap, rfl, hkc, hkm⟩ := rd_slice hks
 have HIH := hid ih
 have HCN := hid hcN
 rw [leftT, if_neg (by omega)] at hr
 unfold maxLen at hkm hmx
 obtain ⟨n, hn⟩ : ∃ n, ds.length = n := ⟨_, rfl⟩
 have HN := hid hn
 rw [hn] at HB0 hcap hr ⊢
 have hn63 : n ≤ 9223372036854775807 := by omega
 obtain ⟨m, hmm⟩ : ∃ m, ks.length = m := ⟨_, rfl⟩
 have HM := hid hmm
 rw [hmm] at HB0 hkc ⊢
 have hm63 : m ≤ 9223372036854775807 := by omega
 rw [show ba [] = ⟨#[]⟩ from rfl] at HB0 ⊢
 have HR0 := hid hr
 have el : IntKind.i64.wrap (left - 1) = left - 1 := IntWalk.i64_in _ (by omega)
 have g0 : ¬ left - 1 < 0 := by omega
 have g1 : ¬ 12 < deep := by omega
 obtain ⟨x0, x1, x2, x3⟩ := HB0.out.2.1.cells
 clear ih hd hcN hks hr hn hmm
 have b2 : (0 : Int) < (m : Int) := by have := List.length_pos_iff.2 hk; have := HM.out; omega
 clear hk
 have HE : Hid (r = -1) := hid (by rw [← HR0.out, if_pos (form_no2 (by decide) (by have := HM.out; omega))])
 go_enter Tryz.func14, Tryz.ntmps14
 go_wp2
 go_ret
 exact ⟨ret_int HE.out.symm, HB0.out.1⟩
theorem left0_d (N : Nat) (ih : LeftOf N) (ds : List Nd) (hcN : cntL ds ≤ N) (deep left r : Int) (hd0 : 0 ≤ deep) (hd1 : deep ≤ 12) (hl0 : 1 ≤ left) (hl1 : left ≤ 100000) (hr : leftT (.mk 0 [] [] ds) deep left = r) (hdd : ds ≠ []) (c0 c1 c2 c3 : Value) (w : World) (hd : NdW w (.mk 0 [] [] ds) c0 c1 c2 c3) :
  Calls Tryz.prog 14 #[.agg #[c0, c1, c2, c3], .int .i64 deep, .int .i64 left] w fun e w' => e = .returned (.int .i64 r) ∧ Below w.heap.size w w' := by
 have HB0 := hid (Boxed.make hd)
 obtain ⟨rfl, rfl, hks, A, cap, rfl, hcap, hmx, _, _⟩ := hd.parts
 obtain ⟨a, kcap, rfl, hkc, hkm⟩ := rd_slice hks
 have HIH := hid ih
 have HCN := hid hcN
 rw [leftT, if_neg (by omega)] at hr
 unfold maxLen at hkm hmx
 obtain ⟨n, hn⟩ : ∃ n, ds.length = n := ⟨_, rfl⟩
 have HN := hid hn
 rw [hn] at HB0 hcap hr ⊢
 have hn63 : n ≤ 9223372036854775807 := by omega
 rw [List.length_nil] at HB0 hkc ⊢
 rw [show ba [] = ⟨#[]⟩ from rfl] at HB0 ⊢
 have HR0 := hid hr
 have el : IntKind.i64.wrap (left - 1) = left - 1 := IntWalk.i64_in _ (by omega)
 have g0 : ¬ left - 1 < 0 := by omega
 have g1 : ¬ 12 < deep := by omega
 obtain ⟨x0, x1, x2, x3⟩ := HB0.out.2.1.cells
 clear ih hd hcN hks hr hn
 have b3 : (0 : Int) < (n : Int) := by have := List.length_pos_iff.2 hdd; have := HN.out; omega
 clear hdd
 have HE : Hid (r = -1) := hid (by rw [← HR0.out, if_pos (form_no3 (by decide) (by have := HN.out; omega))])
 go_enter Tryz.func14, Tryz.ntmps14
 go_wp2
 go_ret
 exact ⟨ret_int HE.out.symm, HB0.out.1⟩
theorem left0_y (N : Nat) (ih : LeftOf N) (hcN : cntL [] ≤ N) (deep left r : Int) (hd0 : 0 ≤ deep) (hd1 : deep ≤ 12) (hl0 : 1 ≤ left) (hl1 : left ≤ 100000) (hr : leftT (.mk 0 [] [] []) deep left = r) (c0 c1 c2 c3 : Value) (w : World) (hd : NdW w (.mk 0 [] [] []) c0 c1 c2 c3) :
  Calls Tryz.prog 14 #[.agg #[c0, c1, c2, c3], .int .i64 deep, .int .i64 left] w fun e w' => e = .returned (.int .i64 r) ∧ Below w.heap.size w w' := by
 have HB0 := hid (Boxed.make hd)
 obtain ⟨rfl, rfl, hks, A, cap, rfl, hcap, hmx, _, _⟩ := hd.parts
 obtain ⟨a, kcap, rfl, hkc, hkm⟩ := rd_slice hks
 have HIH := hid ih
 have HCN := hid hcN
 rw [leftT, if_neg (by omega)] at hr
 unfold maxLen at hkm hmx
 rw [List.length_nil] at HB0 hcap hr ⊢
 rw [List.length_nil] at HB0 hkc ⊢
 rw [show ba [] = ⟨#[]⟩ from rfl] at HB0 ⊢
 have HR0 := hid hr
 have el : IntKind.i64.wrap (left - 1) = left - 1 := IntWalk.i64_in _ (by omega)
 have g0 : ¬ left - 1 < 0 := by omega
 have g1 : ¬ 12 < deep := by omega
 obtain ⟨x0, x1, x2, x3⟩ := HB0.out.2.1.cells
 clear ih hd hcN hks hr
 have HF : Hid (formB 0 [] [] 0 = true) := hid (form_yes (fun h => absurd h.2 (by decide)) (fun h => absurd h.2 (by decide)) (fun h => absurd h.2 (by decide)))
 have HRL : Hid (left - 1 = r) := hid (by rw [← HR0.out, if_neg (by rw [HF.out]; decide), if_neg (by unfold keysB; rw [decide_eq_false (by decide)]; simp), leftL])
 go_enter Tryz.func14, Tryz.ntmps14
 go_wp2
 go_quiet (fail)
 go_wp2
 clear x0 x1 x2 x3
 go_loopw [2, 7] (fun sl si wr => si = .int .i64 0 ∧ sl = .int .i64 (left - 1) ∧ Hid (Boxed w wr (.mk 0 [] [] []) (.int .i64 0) (.string ⟨#[]⟩) (.slice a 0 kcap) (.slice A 0 cap))) (fun _ _ _ => 0)
 case atStart => exact ⟨rfl, rfl, hid (HB0.out.go (belowD _ _))⟩
 case round =>
  obtain ⟨rfl, rfl, HB⟩ := hrel
  obtain ⟨x0, x1, x2, x3⟩ := HB.out.2.1.cells
  go_wp2
  go_ret
  exact ⟨ret_int HRL.out, HB.out.1⟩
theorem left1_k (N : Nat) (ih : LeftOf N) (t : L8) (ks : List L8) (ds : List Nd) (hcN : cntL ds ≤ N) (deep left r : Int) (hd0 : 0 ≤ deep) (hd1 : deep ≤ 12) (hl0 : 1 ≤ left) (hl1 : left ≤ 100000) (hr : leftT (.mk 1 t ks ds) deep left = r) (hk : ks ≠ []) (c0 c1 c2 c3 : Value) (w : World) (hd : NdW w (.mk 1 t ks ds) c0 c1 c2 c3) :
  Calls Tryz.prog 14 #[.agg #[c0, c1, c2, c3], .int .i64 deep, .int .i64 left] w fun e w' => e = .returned (.int .i64 r) ∧ Below w.heap.size w w' := by
 have HB0 := hid (Boxed.make hd)
 obtain ⟨rfl, rfl, hks, A, cap, rfl, hcap, hmx, _, _⟩ := hd.parts
 obtain ⟨a, kcap, rfl, hkc, hkm⟩ := rd_slice hks
 have HIH := hid ih
 have HCN := hid hcN
 rw [leftT, if_neg (by omega)] at hr
 unfold maxLen at hkm hmx
 obtain ⟨n, hn⟩ : ∃ n, ds.length = n := ⟨_, rfl⟩
 have HN := hid hn
 rw [hn] at HB0 hcap hr ⊢
 have hn63 : n ≤ 9223372036854775807 := by omega
 obtain ⟨m, hmm⟩ : ∃ m, ks.length = m := ⟨_, rfl⟩
 have HM := hid hmm
 rw [hmm] at HB0 hkc ⊢
 have hm63 : m ≤ 9223372036854775807 := by omega
 obtain ⟨T, hT⟩ : ∃ T, ba t = T := ⟨_, rfl⟩
 have HTS : Hid (T.size = t.length) := hid (by rw [← hT]; exact ba_size t)
 rw [hT] at HB0 ⊢
 have HR0 := hid hr
 have el : IntKind.i64.wrap (left - 1) = left - 1 := IntWalk.i64_in _ (by omega)
 have g0 : ¬ left - 1 < 0 := by omega
 have g1 : ¬ 12 < deep := by omega
 obtain ⟨x0, x1, x2, x3⟩ := HB0.out.2.1.cells
 clear ih hd hcN hks hr hn hmm hT
 have b2 : (0 : Int) < (m : Int) := by have := List.length_pos_iff.2 hk; have := HM.out; omega
 clear hk
 have HE : Hid (r = -1) := hid (by rw [← HR0.out, if_pos (form_no2 (by decide) (by have := HM.out; omega))])
 go_enter Tryz.func14, Tryz.ntmps14
 go_wp2
 go_ret
 exact ⟨ret_int HE.out.symm, HB0.out.1⟩
theorem left1_d (N : Nat) (ih : LeftOf N) (t : L8) (ds : List Nd) (hcN : cntL ds ≤ N) (deep left r : Int) (hd0 : 0 ≤ deep) (hd1 : deep ≤ 12) (hl0 : 1 ≤ left) (hl1 : left ≤ 100000) (hr : leftT (.mk 1 t [] ds) deep left = r) (hdd : ds ≠ []) (c0 c1 c2 c3 : Value) (w : World) (hd : NdW w (.mk 1 t [] ds) c0 c1 c2 c3) :
  Calls Tryz.prog 14 #[.agg #[c0, c1, c2, c3], .int .i64 deep, .int .i64 left] w fun e w' => e = .returned (.int .i64 r) ∧ Below w.heap.size w w' := by
 have HB0 := hid (Boxed.make hd)
 obtain ⟨rfl, rfl, hks, A, cap, rfl, hcap, hmx, _, _⟩ := hd.parts
 obtain ⟨a, kcap, rfl, hkc, hkm⟩ := rd_slice hks
 have HIH := hid ih
 have HCN := hid hcN
 rw [leftT, if_neg (by omega)] at hr
 unfold maxLen at hkm hmx
 obtain ⟨n, hn⟩ : ∃ n, ds.length = n := ⟨_, rfl⟩
 have HN := hid hn
 rw [hn] at HB0 hcap hr ⊢
 have hn63 : n ≤ 9223372036854775807 := by omega
 rw [List.length_nil] at HB0 hkc ⊢
 obtain ⟨T, hT⟩ : ∃ T, ba t = T := ⟨_, rfl⟩
 have HTS : Hid (T.size = t.length) := hid (by rw [← hT]; exact ba_size t)
 rw [hT] at HB0 ⊢
 have HR0 := hid hr
 have el : IntKind.i64.wrap (left - 1) = left - 1 := IntWalk.i64_in _ (by omega)
 have g0 : ¬ left - 1 < 0 := by omega
 have g1 : ¬ 12 < deep := by omega
 obtain ⟨x0, x1, x2, x3⟩ := HB0.out.2.1.cells
 clear ih hd hcN hks hr hn hT
 have b3 : (0 : Int) < (n : Int) := by have := List.length_pos_iff.2 hdd; have := HN.out; omega
 clear hdd
 have HE : Hid (r = -1) := hid (by rw [← HR0.out, if_pos (form_no3 (by decide) (by have := HN.out; omega))])
 go_enter Tryz.func14, Tryz.ntmps14
 go_wp2
 go_ret
 exact ⟨ret_int HE.out.symm, HB0.out.1⟩
theorem left1_y (N : Nat) (ih : LeftOf N) (t : L8) (hcN : cntL [] ≤ N) (deep left r : Int) (hd0 : 0 ≤ deep) (hd1 : deep ≤ 12) (hl0 : 1 ≤ left) (hl1 : left ≤ 100000) (hr : leftT (.mk 1 t [] []) deep left = r) (c0 c1 c2 c3 : Value) (w : World) (hd : NdW w (.mk 1 t [] []) c0 c1 c2 c3) :
  Calls Tryz.prog 14 #[.agg #[c0, c1, c2, c3], .int .i64 deep, .int .i64 left] w fun e w' => e = .returned (.int .i64 r) ∧ Below w.heap.size w w' := by
 have HB0 := hid (Boxed.make hd)
 obtain ⟨rfl, rfl, hks, A, cap, rfl, hcap, hmx, _, _⟩ := hd.parts
 obtain ⟨a, kcap, rfl, hkc, hkm⟩ := rd_slice hks
 have HIH := hid ih
 have HCN := hid hcN
 rw [leftT, if_neg (by omega)] at hr
 unfold maxLen at hkm hmx
 rw [List.length_nil] at HB0 hcap hr ⊢
 rw [List.length_nil] at HB0 hkc ⊢
 obtain ⟨T, hT⟩ : ∃ T, ba t = T := ⟨_, rfl⟩
 have HTS : Hid (T.size = t.length) := hid (by rw [← hT]; exact ba_size t)
 rw [hT] at HB0 ⊢
 have HR0 := hid hr
 have el : IntKind.i64.wrap (left - 1) = left - 1 := IntWalk.i64_in _ (by omega)
 have g0 : ¬ left - 1 < 0 := by omega
 have g1 : ¬ 12 < deep := by omega
 obtain ⟨x0, x1, x2, x3⟩ := HB0.out.2.1.cells
 clear ih hd hcN hks hr hT
 have HF : Hid (formB 1 t [] 0 = true) := hid (form_yes (fun h => h.1 rfl) (fun h => absurd h.2 (by decide)) (fun h => absurd h.2 (by decide)))
 have HRL : Hid (left - 1 = r) := hid (by rw [← HR0.out, if_neg (by rw [HF.out]; decide), if_neg (by unfold keysB; rw [decide_eq_false (by decide)]; simp), leftL])
 go_enter Tryz.func14, Tryz.ntmps14
 go_wp2
 go_quiet (fail)
 go_wp2
 clear x0 x1 x2 x3
 go_loopw [2, 7] (fun sl si wr => si = .int .i64 0 ∧ sl = .int .i64 (left - 1) ∧ Hid (Boxed w wr (.mk 1 t [] []) (.int .i64 1) (.string T) (.slice a 0 kcap) (.slice A 0 cap))) (fun _ _ _ => 0)
 case atStart => exact ⟨rfl, rfl, hid (HB0.out.go (belowD _ _))⟩
 case round =>
  obtain ⟨rfl, rfl, HB⟩ := hrel
  obtain ⟨x0, x1, x2, x3⟩ := HB.out.2.1.cells
  go_wp2
  go_ret
  exact ⟨ret_int HRL.out, HB.out.1⟩
theorem left2_t (N : Nat) (ih : LeftOf N) (t : L8) (ks : List L8) (ds : List Nd) (hcN : cntL ds ≤ N) (deep left r : Int) (hd0 : 0 ≤ deep) (hd1 : deep ≤ 12) (hl0 : 1 ≤ left) (hl1 : left ≤ 100000) (hr : leftT (.mk 2 t ks ds) deep left = r) (ht : t ≠ []) (c0 c1 c2 c3 : Value) (w : World) (hd : NdW w (.mk 2 t ks ds) c0 c1 c2 c3) :
  Calls Tryz.prog 14 #[.agg #[c0, c1, c2, c3], .int .i64 deep, .int .i64 left] w fun e w' => e = .returned (.int .i64 r) ∧ Below w.heap.size w w' := by
 have HB0 := hid (Boxed.make hd)
 obtain ⟨rfl, rfl, hks, A, cap, rfl, hcap, hmx, _, _⟩ := hd.parts
 obtain ⟨a, kcap, rfl, hkc, hkm⟩ := rd_slice hks
 have HIH := hid ih
 have HCN := hid hcN
 rw [leftT, if_neg (by omega)] at hr
 unfold maxLen at hkm hmx
 obtain ⟨n, hn⟩ : ∃ n, ds.length = n := ⟨_, rfl⟩
 have HN := hid hn
 rw [hn] at HB0 hcap hr ⊢
 have hn63 : n ≤ 9223372036854775807 := by omega
 obtain ⟨m, hmm⟩ : ∃ m, ks.length = m := ⟨_, rfl⟩
 have HM := hid hmm
 rw [hmm] at HB0 hkc ⊢
 have hm63 : m ≤ 9223372036854775807 := by omega
 obtain ⟨T, hT⟩ : ∃ T, ba t = T := ⟨_, rfl⟩
 have HTS : Hid (T.size = t.length) := hid (by rw [← hT]; exact ba_size t)
 rw [hT] at HB0 ⊢
 have HR0 := hid hr
 have el : IntKind.i64.wrap (left - 1) = left - 1 := IntWalk.i64_in _ (by omega)
 have g0 : ¬ left - 1 < 0 := by omega
 have g1 : ¬ 12 < deep := by omega
 obtain ⟨x0, x1, x2, x3⟩ := HB0.out.2.1.cells
 clear ih hd hcN hks hr hn hmm hT
 have b1 : (0 : Int) < (T.size : Int) := by have := List.length_pos_iff.2 ht; have := HTS.out; omega
 have b1n : 0 < T.size := by omega
 have b1d : decide ((0 : Int) < (T.size : Int)) = true := decide_eq_true b1
 have b1e : ¬ T = ByteArray.empty := fun e => by rw [e] at b1n; exact absurd b1n (by decide)
 clear ht
 have HE : Hid (r = -1) := hid (by rw [← HR0.out, if_pos (form_no1 (by decide) (by have := HTS.out; omega))])
 go_enter Tryz.func14, Tryz.ntmps14
 go_wp2
 go_ret
 exact ⟨ret_int HE.out.symm, HB0.out.1⟩
theorem left2_k (N : Nat) (ih : LeftOf N) (ks : List L8) (ds : List Nd) (hcN : cntL ds ≤ N) (deep left r : Int) (hd0 : 0 ≤ deep) (hd1 : deep ≤ 12) (hl0 : 1 ≤ left) (hl1 : left ≤ 100000) (hr : leftT (.mk 2 [] ks ds) deep left = r) (hk : ks ≠ []) (c0 c1 c2 c3 : Value) (w : World) (hd : NdW w (.mk 2 [] ks ds) c0 c1 c2 c3) :
  Calls Tryz.prog 14 #[.agg #[c0, c1, c2, c3], .int .i64 deep, .int .i64 left] w fun e w' => e = .returned (.int .i64 r) ∧ Below w.heap.size w w' := by
 have HB0 := hid (Boxed.make hd)
 obtain ⟨rfl, rfl, hks, A, cap, rfl, hcap, hmx, _, _⟩ := hd.parts
 obtain ⟨a, kcap, rfl, hkc, hkm⟩ := rd_slice hks
 have HIH := hid ih
 have HCN := hid hcN
 rw [leftT, if_neg (by omega)] at hr
 unfold maxLen at hkm hmx
 obtain ⟨n, hn⟩ : ∃ n, ds.length = n := ⟨_, rfl⟩
 have HN := hid hn
 rw [hn] at HB0 hcap hr ⊢
 have hn63 : n ≤ 9223372036854775807 := by omega
 obtain ⟨m, hmm⟩ : ∃ m, ks.length = m := ⟨_, rfl⟩
 have HM := hid hmm
 rw [hmm] at HB0 hkc ⊢
 have hm63 : m ≤ 9223372036854775807 := by omega
 rw [show ba [] = ⟨#[]⟩ from rfl] at HB0 ⊢
 have HR0 := hid hr
 have el : IntKind.i64.wrap (left - 1) = left - 1 := IntWalk.i64_in _ (by omega)
 have g0 : ¬ left - 1 < 0 := by omega
 have g1 : ¬ 12 < deep := by omega
 obtain ⟨x0, x1, x2, x3⟩ := HB0.out.2.1.cells
 clear ih hd hcN hks hr hn hmm
 have b2 : (0 : Int) < (m : Int) := by have := List.length_pos_iff.2 hk; have := HM.out; omega
 clear hk
 have HE : Hid (r = -1) := hid (by rw [← HR0.out, if_pos (form_no2 (by decide) (by have := HM.out; omega))])
 go_enter Tryz.func14, Tryz.ntmps14
 go_wp2
 go_ret
 exact ⟨ret_int HE.out.symm, HB0.out.1⟩
theorem left2_y (N : Nat) (ih : LeftOf N) (ds : List Nd) (hcN : cntL ds ≤ N) (deep left r : Int) (hd0 : 0 ≤ deep) (hd1 : deep ≤ 12) (hl0 : 1 ≤ left) (hl1 : left ≤ 100000) (hr : leftT (.mk 2 [] [] ds) deep left = r) (c0 c1 c2 c3 : Value) (w : World) (hd : NdW w (.mk 2 [] [] ds) c0 c1 c2 c3) :
  Calls Tryz.prog 14 #[.agg #[c0, c1, c2, c3], .int .i64 deep, .int .i64 left] w fun e w' => e = .returned (.int .i64 r) ∧ Below w.heap.size w w' := by
 have HB0 := hid (Boxed.make hd)
 obtain ⟨rfl, rfl, hks, A, cap, rfl, hcap, hmx, _, _⟩ := hd.parts
 obtain ⟨a, kcap, rfl, hkc, hkm⟩ := rd_slice hks
 have HIH := hid ih
 have HCN := hid hcN
 rw [leftT, if_neg (by omega)] at hr
 unfold maxLen at hkm hmx
 obtain ⟨n, hn⟩ : ∃ n, ds.length = n := ⟨_, rfl⟩
 have HN := hid hn
 rw [hn] at HB0 hcap hr ⊢
 have hn63 : n ≤ 9223372036854775807 := by omega
 rw [List.length_nil] at HB0 hkc ⊢
 rw [show ba [] = ⟨#[]⟩ from rfl] at HB0 ⊢
 have HR0 := hid hr
 have el : IntKind.i64.wrap (left - 1) = left - 1 := IntWalk.i64_in _ (by omega)
 have g0 : ¬ left - 1 < 0 := by omega
 have g1 : ¬ 12 < deep := by omega
 obtain ⟨x0, x1, x2, x3⟩ := HB0.out.2.1.cells
 clear ih hd hcN hks hr hn
 have HF : Hid (formB 2 [] [] n = true) := hid (form_yes (fun h => absurd h.2 (by decide)) (fun h => absurd h.2 (by decide)) (fun h => absurd h.1 (by decide)))
 have HRL : Hid (leftL (ds.drop 0) (deep + 1) (left - 1) = r) := hid (by rw [← HR0.out, if_neg (by rw [HF.out]; decide), if_neg (by unfold keysB; rw [decide_eq_false (by decide)]; simp)]; rfl)
 go_enter Tryz.func14, Tryz.ntmps14
 go_wp2
 go_quiet (fail)
 go_wp2
 clear x0 x1 x2 x3
 go_loopw [2, 7] (fun sl si wr => ∃ (i : Nat) (L : Int), i ≤ n ∧ 0 ≤ L ∧ L ≤ 100000 ∧ si = .int .i64 (i : Int) ∧ sl = .int .i64 L ∧ Hid (leftL (ds.drop i) (deep + 1) L = r) ∧ Hid (Boxed w wr (.mk 2 [] [] ds) (.int .i64 2) (.string ⟨#[]⟩) (.slice a 0 kcap) (.slice A n cap))) (fun _ si _ => n - (intOf si).toNat)
 case atStart => exact ⟨0, left - 1, Nat.zero_le _, by omega, by omega, rfl, rfl, HRL, hid (HB0.out.go (belowD _ _))⟩
 case round =>
  clear HB0 HRL
  obtain ⟨i, L, hi, hL0, hL1, rfl, rfl, HRL, HB⟩ := hrel
  obtain ⟨x0, x1, x2, x3⟩ := HB.out.2.1.cells
  by_cases hin : i < n
  ·have hil : i < ds.length := by rw [HN.out]; exact hin
   have hiz : (i : Int) < (n : Int) := by omega
   obtain ⟨b, o, e0, e1, e2, e3, rfl, hb, y0, y1, y2, y3, hnd⟩ := HB.out.2.2.kid i hil
   have hck : cntT (ds[i]'hil) ≤ cntL ds := cntL_mem (List.getElem_mem hil)
   obtain ⟨q, hq⟩ : ∃ q, leftT (ds[i]'hil) (deep + 1) L = q := ⟨_, rfl⟩
   have hrg := leftT_range (ds[i]'hil) (deep + 1) L
   have hnx := leftL_next hil (deep + 1) L
   rw [hq] at hrg hnx
   have HR := hid (HIH.out (ds[i]'hil) (by have := HCN.out; omega) (deep + 1) L q (by omega) (by omega) hL0 hL1 hq e0 e1 e2 e3 wr hnd)
   have ed : IntKind.i64.wrap (deep + 1) = deep + 1 := IntWalk.i64_in _ (by omega)
   by_cases hneg : q < 0
   ·have HE : Hid (r = -1) := hid (by rw [← HRL.out, hnx, if_pos hneg])
    clear hnd hck hrg hnx hq
    go_wp2_with (go_at_call 14; refine HR.out.mono ?_; rintro e w2 ⟨rfl, hb2⟩)
    go_ret
    exact ⟨ret_int HE.out.symm, (HB.out.go hb2).1⟩
   ·have HN2 : Hid (leftL (ds.drop (i + 1)) (deep + 1) q = r) := hid (by rw [← HRL.out, hnx, if_neg hneg])
    have hq1 : q ≤ 100000 := by rcases hrg with h | ⟨_, h⟩ <;> omega
    clear hnd hck hrg hnx hq
    go_wp2_with (go_at_call 14; refine HR.out.mono ?_; rintro e w2 ⟨rfl, hb2⟩)
    have HB2 := hid (HB.out.go hb2)
    clear hb2
    go_roundw
    case measure => simp [intOf]; omega
    case rel => exact ⟨i + 1, q, by omega, by omega, hq1, by go_num, rfl, HN2, HB2⟩
  ·obtain rfl : i = n := by omega
   have HE : Hid (L = r) := hid (by rw [← HRL.out, List.drop_of_length_le (by rw [HN.out]; exact Nat.le_refl _), leftL])
   go_wp2
   go_ret
   exact ⟨ret_int HE.out, HB.out.1⟩
end
end Go.Proofs.YtkcilmmaggmmoaaGreatDoor
