/- FloTwc2 -/
import Derived.Test.YtecglpocmhkkiaaGreatDoorST23
import Derived.Test.YtecglpocmhkkiaaGreatDoorST26
import Derived.Test.YtecglpocmhkkiaaGreatDoorST27
set_option linter.unusedVariables false
set_option linter.unusedSimpArgs false
set_option maxRecDepth 100000
set_option maxHeartbeats 16000000
open Go.Lib (hid)
namespace Go.Proofs.YtecglpocmhkkiaaGreatDoor
section
open Go.RowKit Go.Shelf Go.Sort
open Nw N8 Q6 F9 Go.ChangeShapes Go.WideShapes
attribute [local go_sem] Oper.semAt_some
theorem appendSeq_in (F : Fence) (n : Nat) (hA : F.fn 196) (hV : F.fn 189) (hro : F.round = none) (hn : 3 ≤ n) (Bs : Nat) (v : Value) (zs : List L8) (hlen : zs.length ≤ 1000000) (w : World) (hBs : Bs < w.heap.size) (hc : w.cell? ⟨Bs, 0, none⟩ = some v) (hv : Rd w v zs) :
  CallsIn F n Tryz.prog 196 #[.slice none 0 0, .func (.func 189) #[] #[.pointer (some ⟨Bs, 0, none⟩)]] w fun e w' => ∃ u, e = .returned u ∧ w'.ownsRow w.heap.size 9 1 u zs.length (zs.map encStr) ∧ Below w.heap.size w w' := by
 have h1 : 1 ≤ n := by omega
 obtain ⟨i0, hi, hz0, hz1, hz2⟩ := infoS
 refine callsIn_of_wp_marks Tryz.func196 rfl hA ?_ hro
 simp only [Tryz.ntmps196, List.size_toArray, List.length_cons, List.length_nil, Nat.reduceAdd, Nat.reduceSub, Array.replicate_succ, Array.replicate_zero, List.push_toArray, List.append_toArray, List.nil_append, List.cons_append]
 gi_wp2
 have bO := Go.Boxed.new w 23 (.slice none 0 0)
 have hB0 : Below w.heap.size w (w.alloc (.cells #[.slice none 0 0] 23)) := (Below.refl _ w).alloc (Nat.le_refl _) _
 refine wpIn_rangeFunc_ownG hro h1 (gf := 189) (lb := #[.pointer (some ⟨Bs, 0, none⟩)]) rfl hV (enters_of Tryz.func189 (by kernel_rfl) rfl)
  (vals_stops F (n - 1) hV hro (by omega) Bs w.heap.size v zs hlen _ w (by simp; omega) (by simp) ((hB0.cell (p := ⟨Bs, 0, none⟩) hBs).trans hc) hv rfl hB0) belowK_t (belowK_b (by simp)) (Below.refl _ _) (fun _ => rfl)
  (fun pre W => (∃ u, Go.Boxed W w.heap.size 23 u ∧ W.ownsRow w.heap.size 9 1 u pre.length (pre.map encStr) ∧ True) ∧ Below w.heap.size w W)
  (fun _ _ _ => False)
  (OwnFrom.and (Own.from (holdsRow_own w.heap.size w.heap.size 23 9 1 (fun pre : List L8 => pre.length) (fun pre : List L8 => pre.map encStr) (fun pre v => True)) _) (ownFrom_below (Nat.le_refl _) (by simp)))
  (fun _ _ _ _ _ hs _ _ => hs)
  ⟨⟨_, bO, World.ownsRow_nil _ _ _ _, trivial⟩, hB0⟩
  (fun x => { tmps := #[.slice none 0 0, .func (.func 189) #[] #[.pointer (some ⟨Bs, 0, none⟩)], .pointer (some ⟨w.heap.size, 0, none⟩), undef, .slice none 0 0, encStr x, .func (.func 189) #[] #[.pointer (some ⟨Bs, 0, none⟩)], encStr x, undef, undef, undef, undef, undef], defers := [] }) ?assign ?body ?done ?stop
 case assign =>
  intro l x W K hK
  gi_wp2
  exact hK
 case body =>
  rintro l pre x W ⟨⟨u, hu, hrow, -⟩, hB⟩ hlt
  have hc := hu.cell
  gi_wp2_with (gi_at_builtin; refine wpListIn_append_own _ rfl _ _ 23 rfl w.heap.size 9 i0 _ 1 16 Tryz.underlying23 hi hz0 hz1 hz2 rfl (by decide) _ _ _ rfl (hrow.alloc _) ⟨W.heap.size, 0, none⟩ 1 1 [encStr x] rfl rfl (cell_one_new _ _ _) (by simp [Value.oneCell', encStr]) (by first | omega | (unfold maxLen; omega)) (by first | omega | (unfold maxLen; omega)) (by have := hB.size; simp; omega) ?_; intro v' w1 hown' hgrow _; obtain ⟨g', cap', rfl⟩ := ownsRow_succ hown'; obtain ⟨hv1, hv2, hr2, hk2, hb2⟩ := hu.appended (by decide) hrow hB.size (Nat.le_refl _) hown' hgrow; have hc1 := hv1.cell; have hf1 := hv1.frozen)
  exact ⟨hk2.from _, hb2, ⟨_, hv2, by simpa using hr2, trivial⟩, hB.trans hb2⟩
 case done =>
  rintro D ys W hD rfl ⟨⟨u, hu, hrow, -⟩, hB⟩ hK
  have hc := hu.cell
  gi_wp2
  refine ⟨by simp, .inl ⟨_, _, rfl, run_takeDeferred hK, ?_⟩⟩
  exact ⟨_, results_tmp rfl _ _ _, u, rfl, ownsRow_putObj hrow _ hK rfl, hB.trans (belowK_b (w := w) (Nat.le_refl _) W D _ _ (by simp at hD; omega) hK rfl rfl)⟩
 case stop =>
  rintro D c pre W _ _ h _
  exact h.elim
theorem Collect_any (Bs : Nat) (v : Value) (zs : List L8) (hlen : zs.length ≤ 1000000) (w : World) (hBs : Bs < w.heap.size) (hc : w.cell? ⟨Bs, 0, none⟩ = some v) (hv : Rd w v zs) :
  Calls Tryz.prog 188 #[.func (.func 189) #[] #[.pointer (some ⟨Bs, 0, none⟩)]] w fun e w' => ∃ u, e = .returned u ∧ w'.ownsRow w.heap.size 9 1 u zs.length (zs.map encStr) ∧ Below w.heap.size w w' := by
 have H := (callsIn_wide (n := 5)).1 (appendSeq_in Fence.wide 5 trivial trivial rfl (by omega) Bs v zs hlen w hBs hc hv)
 generalize zs.map encStr = X at H ⊢
 generalize zs.length = k at H ⊢
 clear hv hc
 go_enter Tryz.func188, Tryz.ntmps188
 go_wp2_with (go_at_call 196; refine H.mono ?_; rintro e w1 ⟨u, rfl, ho, hb⟩)
 go_ret
 exact ⟨_, rfl, ho, hb⟩
theorem owns_nil_2 {w : World} {base n : Nat} {e : TypeId} {l : List L8} (h : w.ownsRow base e 1 (.slice none 0 0) n (l.map encStr)) : n = 0 ∧ l = [] := by
 have hl : l.length = n := by simpa using h.1
 rcases h.2 with ⟨_, h0⟩ | ⟨g, cap, cur, h0, _⟩
 ·subst h0; exact ⟨rfl, List.length_eq_zero_iff.1 hl⟩
 ·cases h0
theorem Sort_own (v : Value) (l : List L8) (base : Nat) (w : World) (h : w.ownsRow base 9 1 v l.length (l.map encStr)) (hb : base ≤ w.heap.size) (hbig : l.length ≤ 1000000) :
  Calls Tryz.prog 156 #[v] w fun e w' => e = .returned (.tuple #[]) ∧ w'.ownsRow base 9 1 v l.length ((l.mergeSort fun x y => decide (x ≤ y)).map encStr) ∧ Below base w w' := by
 by_cases hv : v = .slice none 0 0
 ·subst hv
  obtain ⟨h0, rfl⟩ := owns_nil_2 h
  refine (Tryz.slices_Sort_string_none none 0 w).mono ?_
  rintro e w' ⟨rfl, rfl⟩
  exact ⟨rfl, by simpa using h, Below.refl _ _⟩
 ·obtain ⟨g, cap, rfl, hbg, hg, h1, h2, hl, hH⟩ := Lib.holds_of_ownsRow h hv
  obtain ⟨cur, hblk, hcs⟩ : ∃ cur, w.heap[g]? = some (.cells cur 9 (0, 0)) ∧ cur.size = cap * 1 := by
   rcases h.2 with ⟨e0, _⟩ | ⟨g', cap', cur, e0, _, hgg, _, _, hs, _⟩
   ·exact absurd e0 hv
   ·injection e0 with e1 _ e3
    injection e1 with e1
    injection e1 with e1
    subst e1; subst e3
    exact ⟨cur, hgg, hs⟩
  obtain ⟨S, hS⟩ : ∃ S, S = l.mergeSort fun x y => decide (x ≤ y) := ⟨_, rfl⟩
  have hSl : S.length = l.length := by rw [hS, List.length_mergeSort]
  have hsort := Tryz.slices_Sort_string g 0 cap l w hH hg (by omega)
  rw [← hS] at hsort ⊢
  refine hsort.mono ?_
  rintro e w' ⟨rfl, nn, os, rfl⟩
  exact ⟨rfl, ownsRow_sorted (n := nn) (os := os) (ts := S) hSl hbg hblk h1 h2 hcs, (Below.refl base w).grown (grownBy_sorted _) hb (fun j hj => by cases hj; exact hbg)⟩
theorem SortedS_any (Bs : Nat) (v : Value) (zs : List L8) (hlen : zs.length ≤ 1000000) (w : World) (hBs : Bs < w.heap.size) (hc : w.cell? ⟨Bs, 0, none⟩ = some v) (hv : Rd w v zs) (k : Nat) (hk : zs.length = k) (X : List Value) (hX : (zs.mergeSort fun x y => decide (x ≤ y)).map encStr = X) :
  Calls Tryz.prog 173 #[.func (.func 189) #[] #[.pointer (some ⟨Bs, 0, none⟩)]] w fun e w' => ∃ u, e = .returned u ∧ w'.ownsRow w.heap.size 9 1 u k X ∧ Below w.heap.size w w' := by
 subst hk; subst hX
 have HC := hid (Collect_any Bs v zs hlen w hBs hc hv)
 have HS := hid (fun u W ho hb => Sort_own u zs w.heap.size W ho hb hlen)
 generalize (zs.mergeSort fun x y => decide (x ≤ y)).map encStr = X at HS ⊢
 generalize zs.map encStr = Y at HS HC
 generalize zs.length = k at HS HC ⊢
 clear hv hc
 go_enter Tryz.func173, Tryz.ntmps173
 go_wp2_with fail
 refine HC.out.mono ?_
 rintro e w1 ⟨u, rfl, ho, hb⟩
 have H2 := HS.out u w1 ho hb.size
 have HB := hid hb
 clear ho hb HC HS
 go_wp2_with fail
 refine H2.mono ?_
 rintro e w2 ⟨rfl, ho, hb⟩
 have HO := hid ho
 have HB2 := hid (HB.out.trans hb)
 clear ho hb H2
 go_wp2
 go_ret
 exact ⟨_, rfl, HO.out, HB2.out⟩
theorem Values_any (a : Option Addr) (len cap : Nat) (w : World) :
  Calls Tryz.prog 174 #[.slice a len cap] w fun e w' => e = .returned (.func (.func 189) #[] #[.pointer (some ⟨w.heap.size, 0, none⟩)]) ∧ w' = w.alloc (.cells #[.slice a len cap] 23) :=
 (callsIn_wide (n := 3)).1 (values_in Fence.wide 3 trivial rfl a len cap w)
theorem Compact_own (v : Value) (S : List L8) (n base : Nat) (w : World) (h : w.ownsRow base 9 1 v n (S.map encStr)) (hb : base ≤ w.heap.size) (hbig : n ≤ 1000000) (m : Nat) (hm : (Lib.compact S).length = m) :
  Calls Tryz.prog 157 #[v] w fun e w' => (∃ (a : Option Addr) (c : Nat), e = .returned (.slice a m c)) ∧ Below base w w' := by
 subst hm
 by_cases hv : v = .slice none 0 0
 ·subst hv
  obtain ⟨rfl, rfl⟩ := owns_nil_2 h
  refine (Tryz.slices_Compact_string_empty none 0 w).mono ?_
  rintro e w' ⟨rfl, rfl⟩
  exact ⟨⟨_, _, rfl⟩, Below.refl _ _⟩
 ·obtain ⟨g, cap, rfl, hbg, hg, h1, h2, hl, hH⟩ := Lib.holds_of_ownsRow h hv
  subst hl
  have hc := Tryz.slices_Compact_string g 0 cap S w hH (by omega) (by omega)
  refine hc.mono ?_
  rintro e w' ⟨rfl, q, rfl⟩
  exact ⟨⟨_, _, rfl⟩, Lib.below_putRow (Below.refl base w) hbg⟩
theorem hasTwice_any (v : Value) (ks : List L8) (w : World) (hv : Rd w v ks) (hlen : ks.length ≤ 1000000) (b : Bool) (hb : twi ks = b) :
  Calls Tryz.prog 166 #[v] w fun e w' => e = .returned (.bool b) ∧ Below w.heap.size w w' := by
 obtain ⟨a, cap, rfl, hle, hcm, hz⟩ := id hv
 obtain ⟨n, hn⟩ : ∃ n, ks.length = n := ⟨_, rfl⟩
 obtain ⟨X, hX⟩ : ∃ X, (ks.mergeSort fun x y => decide (x ≤ y)).map encStr = X := ⟨_, rfl⟩
 obtain ⟨m, hm⟩ : ∃ m, (Lib.compact (ks.mergeSort fun x y => decide (x ≤ y))).length = m := ⟨_, rfl⟩
 have HRES : Hid (b = decide (m < n)) := hid (by
  rw [← hb]
  show decide ((Lib.compact (ks.mergeSort fun x y => decide (x ≤ y))).length < ks.length) = _
  rw [hm, hn])
 have hal : Below w.heap.size w (w.alloc (.cells #[.slice a ks.length cap] 23)) := (Below.refl _ w).alloc (Nat.le_refl _) _
 have HS := hid (SortedS_any w.heap.size (.slice a ks.length cap) ks hlen (w.alloc (.cells #[.slice a ks.length cap] 23)) (by simp) (Go.Boxed.new w _ _).cell (hv.below hal) n hn X hX)
 have HC := hid (fun u W (ho : World.ownsRow W (w.alloc (.cells #[.slice a ks.length cap] 23)).heap.size 9 1 u n X) (hb : (w.alloc (.cells #[.slice a ks.length cap] 23)).heap.size ≤ W.heap.size) => Compact_own u (ks.mergeSort fun x y => decide (x ≤ y)) n _ W (by rw [hX]; exact ho) hb (by omega) m hm)
 rw [hn] at hal HS HC
 have HAL := hid hal
 have HV := hid (Values_any a n cap w)
 rw [hn]
 clear hv hz hb hX hm hal hle hcm hlen hn
 go_enter Tryz.func166, Tryz.ntmps166
 go_wp2_with fail
 refine HV.out.mono ?_
 rintro e w1 ⟨rfl, rfl⟩
 clear HV
 go_wp2_with fail
 refine HS.out.mono ?_
 rintro e w2 ⟨u, rfl, ho, hb2⟩
 have H3 := HC.out u w2 ho hb2.size
 have HB2 := hid (HAL.out.trans (hb2.mono HAL.out.size))
 clear ho hb2 HC HS
 go_wp2_with fail
 refine H3.mono ?_
 rintro e w3 ⟨⟨a9, c9, rfl⟩, hb3⟩
 have HB3 := hid (HB2.out.trans (hb3.mono HAL.out.size))
 clear hb3 H3 HB2
 go_wp2
 go_ret
 exact ⟨ret_b HRES.out.symm, HB3.out⟩
end
end Go.Proofs.YtecglpocmhkkiaaGreatDoor
