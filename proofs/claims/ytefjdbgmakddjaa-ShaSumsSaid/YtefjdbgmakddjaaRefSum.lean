/- The contract of the document's own Sum. -/
import Derived.Test.YtefjdbgmakddjaaShaSum
import Derived.Test.YtefjdbgmakddjaaRefBlocks
import Derived.Test.YtefjdbgmakddjaaRefPad
import Derived.Test.YtefjdbgmakddjaaRefHex
import Derived.Deep.RegionHeld3
namespace Go.Proofs.Ytefjdbgmakddjaa
open Go.RowKit Go.Sort
open Sh Ro Pr
set_option linter.unusedVariables false
theorem re_set {w w' : World} {G : Nat} {ty : TypeId} {k : Value} {v : V8} {cs : Array Value} (h : RE encU w k kl) (hr : w.heap[G]? = some (.cells (v.arr.map encU) ty (0, 0))) (hw : w' = w.setRow G cs) : RE encU w' k kl := by
  subst hw
  obtain ⟨a, cap, rfl, h1, h2, h3⟩ := h
  refine ⟨a, cap, rfl, h1, h2, ?_⟩
  rcases h3 with ⟨h0, _⟩ | ⟨b, rfl, h4, h5⟩
  · have := kl_len; rw [h0] at this; exact absurd this (by decide)
  · have hb : b ≠ G := by
      intro e; subst e
      have h6 := h5 63 (by rw [kl_len]; decide)
      rw [cell_of_row w b 63 _ ty (0, 0) hr, V8.map] at h6
      cases h6
    refine .inr ⟨b, rfl, by rw [setRow_size]; exact h4, fun j hj => ?_⟩
    rw [← h5 j hj]
    exact World.cell?_of_block (row_set rfl cs hb)
theorem RBlock_v (v R : V8) (s : ByteArray) (k : Value) (w : World) (hv : W32 v.e) (hm : s.size ≤ maxLen) (hk : RE encU w k kl) (hR : stepV v s = R) :
    Calls Try.prog 31 #[.agg (v.arr.map encU), .string s, k] w fun e w' => e = .returned (.agg (R.arr.map encU)) ∧ Below w.heap.size w w' := by
  rw [V8.map, V8.map]; exact RBlock_x v R s k w hv hm hk hR
theorem RPad_qq (s q : ByteArray) (w : World) (hs : s.size ≤ 4000) (hq : padL s.data.toList = q.data.toList) :
    Calls Try.prog 14 #[.string s] w fun e w' => e = .returned (.string q) ∧ Below w.heap.size w w' :=
  (RPad_any s w hs).mono fun e w' ⟨h1, h2⟩ => ⟨by rw [h1, hq], h2⟩
theorem h0_get (l : List Nat) (hl : primesL 8 = l) (j : Nat) (h : j < l.length) : rootI ((l[j] : Nat) : Int) 2 = h0 j := by
  unfold h0; rw [hl, List.getD_eq_getElem?_getD, List.getElem?_eq_getElem h]; rfl
theorem size_zeros8 : ((zeros 8).map encU).size = 8 := by rw [Array.size_map]; exact zeros_size 8
theorem list_cell {w : World} {G : Nat} {ty : TypeId} {v : V8} (h : w.heap[G]? = some (.cells (v.arr.map encU) ty (0, 0))) (t : Nat) (ht : t < v.list.length) : w.cell? ⟨G, t, none⟩ = some (.int .u32 (v.list[t]'ht)) := by
  rw [cell_of_row w G t _ ty (0, 0) h, V8.map]
  have h8 : t < 8 := ht
  match t, h8 with
  | 0, _ => rfl
  | 1, _ => rfl
  | 2, _ => rfl
  | 3, _ => rfl
  | 4, _ => rfl
  | 5, _ => rfl
  | 6, _ => rfl
  | 7, _ => rfl
theorem list_w {v : V8} (h : v.Ok) : ∀ x ∈ v.list, W32 x := by
  intro x hx
  unfold V8.list at hx
  simp at hx
  rcases hx with rfl | rfl | rfl | rfl | rfl | rfl | rfl | rfl
  · exact h.a
  · exact h.b
  · exact h.c
  · exact h.d
  · exact h.e
  · exact h.f
  · exact h.g
  · exact h.h
theorem keepA {w : World} {G t : Nat} {r : Obj} {x : Value} {o : Obj} (h : w.heap[G]? = some r ∧ w.cell? ⟨G, t, none⟩ = some x) : (w.alloc o).heap[G]? = some r ∧ (w.alloc o).cell? ⟨G, t, none⟩ = some x := by
  have hlt : G < w.heap.size := by
    rcases Nat.lt_or_ge G w.heap.size with h1 | h1
    · exact h1
    · rw [Array.getElem?_eq_none h1] at h; cases h.1
  have e := row_alloc_eq hlt o
  exact ⟨e.trans h.1, (World.cell?_of_block e).trans h.2⟩
theorem keepG {w w2 : World} {own : Option Nat} {G t : Nat} {r : Obj} {x : Value} (hg : w.grownBy w2 own) (hne : ∀ q, own = some q → q ≠ G) (h : w.heap[G]? = some r ∧ w.cell? ⟨G, t, none⟩ = some x) : w2.heap[G]? = some r ∧ w2.cell? ⟨G, t, none⟩ = some x := by
  have hlt : G < w.heap.size := by
    rcases Nat.lt_or_ge G w.heap.size with h1 | h1
    · exact h1
    · rw [Array.getElem?_eq_none h1] at h; cases h.1
  have e := hg.block G hlt (fun e => hne G e.symm rfl)
  exact ⟨e.trans h.1, (World.cell?_of_block e).trans h.2⟩
theorem own_ne {w : World} {base n size G : Nat} {e : TypeId} {v : Value} {xs : List Value} (h : w.ownsRow base e size v n xs) (hG : G < base) : ∀ q, v.ownBlock = some q → q ≠ G := fun q hq e => by
  have := (h.lt q hq).1
  omega
set_option maxHeartbeats 4000000 in
theorem RSum_any (s : ByteArray) (w : World) (hs : s.size ≤ 3000) :
    Calls Try.prog 20 #[.string s] w fun e w' => e = .returned (.string ⟨(sumL s.data.toList).toArray⟩) ∧ Below w.heap.size w w' := by
  obtain ⟨i0, hi, hz0, hz1, hz2⟩ := infoB
  obtain ⟨q, hq⟩ : ∃ q : ByteArray, padL s.data.toList = q.data.toList := ⟨⟨(padL s.data.toList).toArray⟩, by simp⟩
  obtain ⟨L, hL⟩ : ∃ L, q.data.toList = L := ⟨_, rfl⟩
  obtain ⟨M, hM⟩ : ∃ M, L.length / 64 = M := ⟨_, rfl⟩
  have hlen : L.length = 64 * M := by have := pad_blocks s.data.toList; rw [hq, hL] at this; omega
  have hqs : q.size = 64 * M := by rw [← hlen, ← hL]; rfl
  have hbig : L.length ≤ 4000 := by
    have h := padL_len s.data.toList
    rw [hq, hL] at h
    have hz : padZ s.data.toList.length < 64 := Nat.mod_lt _ (by decide)
    have : s.data.toList.length = s.size := rfl
    omega
  obtain ⟨Q, hQ⟩ : ∃ Q : ByteArray, beL (ssL L M).list = Q.data.toList := ⟨⟨(beL (ssL L M).list).toArray⟩, by simp⟩
  have HS : Hid (sumL s.data.toList = Q.data.toList) := Lib.hid (by unfold sumL; rw [hq, hL, hM]; exact hQ)
  have HQ := Lib.hid hQ
  have HP := Lib.hid hq
  have HL := Lib.hid hL
  have HI8 := Lib.hid fun u : V8 => (show (Try.prog.info? 31).map (·.size) = some (u.arr.map encU).size by rw [size8]; exact infoS8)
  have HO8 := Lib.hid fun u : V8 => cells_one u.arr
  have hN : 64 * M ≤ 4000 := by omega
  clear hQ hq hL hM hlen hbig
  obtain ⟨l, hl⟩ : ∃ l, primesL 8 = l := ⟨_, rfl⟩
  have hlen : l.length = 8 := by rw [← hl]; exact primesL_length (n := 8) (by decide)
  have HPr := Lib.hid fun w0 => RPrimes_q 8 l w0 hl
  have HH := Lib.hid (h0_get l hl)
  clear hl
  go_enter Try.func20, Try.ntmps20
  go_wp2_with fail
  refine (HPr.out _).mono ?_
  rintro e w1 ⟨v, rfl, hown, hb1⟩
  have r0 : Hid (Arr w1 w.heap.size 31 (zeros 8)) := Lib.hid (by unfold Arr; rw [zeros_map]; exact row_below (row_new w _) hb1 (by simp))
  have r5 := Lib.hid (Below.trans ((Below.refl _ w).alloc (Nat.le_refl _) _) (hb1.mono (by simp)))
  obtain ⟨a, cap, rfl, hcap, hmx, hcells⟩ := re_of_owns hown
  rcases hcells with ⟨h0', -⟩ | ⟨b, rfl, hbl, hcs⟩
  · rw [h0'] at hlen; exact absurd hlen (by decide)
  have hbg := owns_fresh hown
  have HBG : Hid (w.heap.size < b) := Lib.hid (by simp at hbg; omega)
  have HCS := Lib.hid hcs
  rw [hlen] at hcap ⊢
  unfold maxLen at hmx
  clear hb1 hcs hown hbg
  obtain ⟨w0, hw0⟩ : ∃ w0, w0 = w1 := ⟨_, rfl⟩
  subst hw0
  go_wp2
  go_loopw [5] (fun si wr => ∃ t : Nat, ∃ d : Array Int, t ≤ 8 ∧ si = .int .i64 (t : Int) ∧ d.size = 8 ∧ (∀ j, j < t → d[j]! = h0 j) ∧ Arr wr w.heap.size 31 d ∧ Below w.heap.size w wr ∧ b < wr.heap.size ∧ (∀ j (h : j < l.length), wr.cell? ⟨b, j, none⟩ = some (encN l[j]))) (fun si _ => 8 - (intOf si).toNat)
  case atStart => exact ⟨0, zeros 8, Nat.zero_le _, rfl, zeros_size 8, fun j hj => absurd hj (Nat.not_lt_zero _), r0.out, r5.out, hbl, HCS.out⟩
  case round =>
    clear r0 r5 HCS hbl
    obtain ⟨t, d, ht, rfl, hd, hall, r1, r5, hbl, hcs⟩ := hrel
    have R1 := Lib.hid r1
    have R5 := Lib.hid r5
    have HA := Lib.hid hall
    have HBL := Lib.hid hbl
    have HCS := Lib.hid hcs
    clear r1 r5 hall hcs hbl
    by_cases hlt : t < 8
    · have hlt2 : t < l.length := by omega
      have hc : wr.cell? ⟨b, t, none⟩ = some (.int .i64 ((l[t]'hlt2 : Nat) : Int)) := HCS.out t hlt2
      have HX := Lib.hid (HH.out t hlt2)
      obtain ⟨p, hp⟩ : ∃ p, l[t]'hlt2 = p := ⟨_, rfl⟩
      rw [hp] at hc HX
      obtain ⟨x, hx⟩ : ∃ x, h0 t = x := ⟨_, rfl⟩
      have HX2 := Lib.hid hx
      rw [hx] at HX
      have HRt := Lib.hid (RRoot_q (p : Int) 2 x wr HX.out)
      clear hp hx hlt2
      obtain ⟨w9, hw9⟩ : ∃ w9, w9 = wr := ⟨_, rfl⟩
      subst hw9
      go_wp2_with fail
      refine HRt.out.mono ?_
      rintro e w2 ⟨rfl, hb2⟩
      replace R5 := Lib.hid (R5.out.trans (hb2.mono R5.out.size))
      replace R1 : Hid (Arr w2 w.heap.size 31 d) := Lib.hid (row_below R1.out hb2 (row_lt R1.out))
      replace HCS : Hid (∀ j (h : j < l.length), w2.cell? ⟨b, j, none⟩ = some (encN l[j])) := Lib.hid fun j h => (hb2.cell (p := ⟨b, j, none⟩) HBL.out).trans (HCS.out j h)
      replace HBL := Lib.hid (Nat.lt_of_lt_of_le HBL.out hb2.size)
      have c1 := R1.out.cell t (by omega)
      have cf := R1.out.frozen t
      generalize d[t]! = y0 at c1
      clear hb2 hc HRt
      go_wp2_with fail
      go_roundw
      case measure => simp [intOf]; omega
      case rel =>
        refine ⟨t + 1, d.setIfInBounds t x, by omega, by go_num, by simp [hd], fun j hj => ?_, R1.out.set t x, R5.out.setCell (by simp) _, by simpa using HBL.out, fun j hj => ?_⟩
        · by_cases e : j = t
          · subst e; rw [get_set_same _ _ _ (by omega), HX2.out]
          · rw [get_set_other _ _ _ _ e]; exact HA.out j (by omega)
        · rw [World.cell?_setCell_other _ _ _ _ (by intro h; injection h with h1; have := HBG.out; omega)]
          exact HCS.out j hj
    · obtain rfl : t = 8 := by omega
      have hdH := H0_arr hd HA.out
      subst hdH
      have Z0 : Hid (wr.heap[w.heap.size]? = some (.cells (H0.arr.map encU) 31 (0, 0))) := R1
      clear hd HA HCS HBL R1 HBG HH
      go_wp2_with fail
      refine (Rconstants_any _).mono ?_
      rintro e w2 ⟨k, rfl, hk, hb2⟩
      have Z1 : Hid (w2.heap[w.heap.size]? = some (.cells (H0.arr.map encU) 31 (0, 0))) := Lib.hid (row_below Z0.out hb2 (row_lt Z0.out))
      have Z5 := Lib.hid (R5.out.trans (hb2.mono R5.out.size))
      have HK := Lib.hid hk
      clear hb2 hk R5 Z0
      go_wp2_with fail
      refine (RPad_qq s q _ (by omega) HP.out).mono ?_
      rintro e w3 ⟨rfl, hb3⟩
      have Y1 : Hid (w3.heap[w.heap.size]? = some (.cells (H0.arr.map encU) 31 (0, 0))) := Lib.hid (row_below Z1.out hb3 (row_lt Z1.out))
      have Y5 := Lib.hid (Z5.out.trans (hb3.mono Z5.out.size))
      have YK := Lib.hid (HK.out.below hb3)
      clear hb3 HK Z1 Z5
      obtain ⟨w4, hw4⟩ : ∃ w4, w4 = w3 := ⟨_, rfl⟩
      subst hw4
      go_wp2_with fail
      go_loopw [8] (fun si wr => ∃ i T : Nat, i ≤ M ∧ T = 64 * i ∧ si = .int .i64 (T : Int) ∧ wr.heap[w.heap.size]? = some (.cells ((ssL L i).arr.map encU) 31 (0, 0)) ∧ RE encU wr k kl ∧ Below w.heap.size w wr) (fun si _ => 64 * M - (intOf si).toNat)
      case atStart => exact ⟨0, 0, Nat.zero_le _, rfl, rfl, Y1.out, YK.out, Y5.out⟩
      case round =>
        clear Y1 YK Y5
        obtain ⟨i, T, hi2, hT, rfl, z1, zk, z5⟩ := hrel
        have Z1 := Lib.hid z1
        have ZK := Lib.hid zk
        have Z5 := Lib.hid z5
        clear z1 zk z5
        have hw64 : IntKind.i64.wrap ((T : Int) + 64) = (T : Int) + 64 := by exact wrap_sm (by omega) (by omega)
        by_cases hlt2 : i < M
        · have hle : (T : Int) + 64 ≤ (q.size : Int) := by omega
          have hTq : (T : Int) ≤ (q.size : Int) := by omega
          have hTq2 : T ≤ q.size := by omega
          have hm2 : (q.extract T q.size).size ≤ maxLen := by rw [ByteArray.size_extract]; unfold maxLen; omega
          have hge : ¬ (q.extract T q.size).size < 64 := by rw [ByteArray.size_extract]; omega
          have hext : (q.extract T q.size).data.toList = L.drop (64 * i) := by rw [drop_ext, HL.out, hT]
          have HSu : Hid (stepV (ssL L i) (q.extract T q.size) = ssL L (i + 1)) := Lib.hid (by rw [stepV_long hge, ssL_succ hext])
          have HBk := Lib.hid fun w0 hk => RBlock_v (ssL L i) (ssL L (i + 1)) (q.extract T q.size) k w0 (ssL_ok L i).e hm2 hk HSu.out
          have HT := Lib.hid hT
          have HqS := Lib.hid hqs
          clear hge hm2 hext hT hqs
          go_wp2_with fail
          refine region_tail 5 (by kernel_rfl) (by kernel_rfl) ?_
          intro w9 hw9
          simp only [List.take_succ_cons, List.take_zero, List.drop_succ_cons, List.drop_zero]
          replace Z1 : Hid (w9.heap[w.heap.size]? = some (.cells ((ssL L i).arr.map encU) 31 (0, 0))) := Lib.hid (by rw [hw9]; exact row_drew Z1.out)
          replace Z5 : Hid (Below w.heap.size w w9) := Lib.hid (by rw [hw9]; exact Z5.out.drew)
          replace ZK : Hid (RE encU w9 k kl) := Lib.hid (by rw [hw9]; exact ZK.out.below (((Below.refl _ wr)).drew))
          clear hw9
          refine still_load_row rfl 31 _ rfl w.heap.size rfl 31 _ (0, 0) _ Z1.out Try.underlying31 rfl (HI8.out _) ?_
          repeat still_step
          refine wpStill_nil ?_
          go_wp2_with (first
            | (go_at_call 31; refine (HBk.out _ ZK.out).mono ?_; rintro e w6 ⟨rfl, hb6⟩; have y0 := Lib.hid (row_below Z1.out hb6 (row_lt Z1.out)); have yk := Lib.hid (ZK.out.below hb6); have y5 := Lib.hid (Z5.out.trans (hb6.mono Z5.out.size)); clear hb6)
            | (refine store_rowE rfl 31 _ _ rfl w.heap.size ((ssL L (i + 1)).arr.map encU) rfl rfl 31 _ y0.out (HI8.out _) (by rw [size8, size8]) (HO8.out _) ?_; intro w7 hw7; have x0 := Lib.hid (row_self y0.out hw7); have xk := Lib.hid (re_set yk.out y0.out hw7); have x5 := Lib.hid (below_set y5.out hw7 (Nat.le_refl _)); clear hw7))
          refine ⟨⟨i + 1, T + 64, by omega, by have := HT.out; omega, by go_num, x0.out, xk.out, x5.out⟩, ?_⟩
          have h1 := HT.out
          have h2 := HqS.out
          simp [intOf]; omega
        · have hiM : M = i := by omega
          subst hiM
          have hnle : ¬ (T : Int) + 64 ≤ (q.size : Int) := by omega
          have hnle2 : (q.size : Int) < (T : Int) + 64 := by omega
          have HW0 := Lib.hid (list_w (ssL_ok L M))
          obtain ⟨V, hV⟩ : ∃ V, ssL L M = V := ⟨_, rfl⟩
          rw [hV] at Z1 HQ HW0
          clear hT hqs ZK hV hlt2
          obtain ⟨B0, hB0⟩ : ∃ B0, B0 = wr.heap.size := ⟨_, rfl⟩
          have hGB : w.heap.size < B0 := by rw [hB0]; exact row_lt Z1.out
          have HO0 := Lib.hid (own_nil wr 5)
          replace HO0 : Hid ((wr.alloc (.cells #[] 5)).ownsRow B0 5 1 (.slice (some ⟨wr.heap.size, 0, none⟩) 0 0) (4 * 0) ((beL (V.list.take 0)).map encB)) := by rw [hB0]; exact HO0
          have X1 : Hid ((wr.alloc (.cells #[] 5)).heap[w.heap.size]? = some (.cells (V.arr.map encU) 31 (0, 0))) := Lib.hid (row_alloc Z1.out _)
          have X5 : Hid (Below w.heap.size w (wr.alloc (.cells #[] 5))) := Lib.hid (Z5.out.alloc Z5.out.size _)
          have XB : Hid (B0 ≤ (wr.alloc (.cells #[] 5)).heap.size) := Lib.hid (by simp; omega)
          obtain ⟨w5, hw5⟩ : ∃ w5, w5 = wr := ⟨_, rfl⟩
          subst hw5
          go_wp2_with fail
          go_loopw [9, 10] (fun sv si wr => ∃ t : Nat, t ≤ 8 ∧ si = .int .i64 (t : Int) ∧ wr.ownsRow B0 5 1 sv (4 * t) ((beL (V.list.take t)).map encB) ∧ wr.heap[w.heap.size]? = some (.cells (V.arr.map encU) 31 (0, 0)) ∧ Below w.heap.size w wr ∧ B0 ≤ wr.heap.size ∧ sv ≠ .slice none 0 0) (fun _ si _ => 8 - (intOf si).toNat)
          case atStart => exact ⟨0, Nat.zero_le _, rfl, HO0.out, X1.out, X5.out, XB.out, by simp⟩
          case round =>
            clear X1 X5 XB HO0 Z1 Z5
            obtain ⟨t, ht, rfl, hown, z1, z5, hbw, hnn⟩ := hrel
            have Z1 := Lib.hid z1
            have Z5 := Lib.hid z5
            have HNN := Lib.hid hnn
            have HBW := Lib.hid hbw
            clear z1 z5 hnn hbw
            by_cases hlt3 : t < 8
            · have hlv : t < V.list.length := hlt3
              have hcx := list_cell Z1.out t hlv
              have HX := Lib.hid (beL_snoc hlv)
              have hxw := HW0.out _ (List.getElem_mem hlv)
              obtain ⟨x, hx⟩ : ∃ x, V.list[t]'hlv = x := ⟨_, rfl⟩
              rw [hx] at hcx HX hxw
              unfold W32 at hxw
              obtain ⟨X, rfl⟩ : ∃ X : Nat, x = (X : Int) := ⟨x.toNat, by omega⟩
              have HE := Lib.hid (beW_enc (X : Int) (by omega))
              clear hx hlv
              obtain ⟨a3, ha3⟩ : ∃ a, X / 16777216 = a := ⟨_, rfl⟩
              obtain ⟨b2, hb2⟩ : ∃ a, X / 65536 = a := ⟨_, rfl⟩
              obtain ⟨a2, ha2⟩ : ∃ a, b2 % 256 = a := ⟨_, rfl⟩
              obtain ⟨b1, hb1⟩ : ∃ a, X / 256 = a := ⟨_, rfl⟩
              obtain ⟨a1, ha1⟩ : ∃ a, b1 % 256 = a := ⟨_, rfl⟩
              obtain ⟨a0, ha0⟩ : ∃ a, X % 256 = a := ⟨_, rfl⟩
              have g3 : a3 < 256 := by omega
              have g2 : a2 < 256 := by omega
              have g1 : a1 < 256 := by omega
              have g0 : a0 < 256 := by omega
              have HV : Hid ((beW (X : Int)).map encB = [.int .u8 (a3 : Int), .int .u8 (a2 : Int), .int .u8 (a1 : Int), .int .u8 (a0 : Int)]) := Lib.hid (by
                rw [HE.out]
                rw [show (X : Int) / 16777216 % 256 = (a3 : Int) by omega, show (X : Int) / 65536 % 256 = (a2 : Int) by omega, show (X : Int) / 256 % 256 = (a1 : Int) by omega, show (X : Int) % 256 = (a0 : Int) by omega])
              have d3 : (X : Int) / 16777216 = (a3 : Int) := by omega
              have d2 : (X : Int) / 65536 = (b2 : Int) := by omega
              have d1 : (X : Int) / 256 = (b1 : Int) := by omega
              have d0 : (X : Int) % 256 = (a0 : Int) := by omega
              have m2 : (b2 : Int) % 256 = (a2 : Int) := by omega
              have m1 : (b1 : Int) % 256 = (a1 : Int) := by omega
              have t3 : (X : Int).tdiv 16777216 = (a3 : Int) := by rw [Int.tdiv_eq_ediv_of_nonneg (by omega)]; exact d3
              have t2 : (X : Int).tdiv 65536 = (b2 : Int) := by rw [Int.tdiv_eq_ediv_of_nonneg (by omega)]; exact d2
              have t1 : (X : Int).tdiv 256 = (b1 : Int) := by rw [Int.tdiv_eq_ediv_of_nonneg (by omega)]; exact d1
              have s0 : (X : Int).tmod 256 = (a0 : Int) := by rw [Int.tmod_eq_emod_of_nonneg (by omega)]; exact d0
              have s2 : (b2 : Int).tmod 256 = (a2 : Int) := by rw [Int.tmod_eq_emod_of_nonneg (by omega)]; exact m2
              have s1 : (b1 : Int).tmod 256 = (a1 : Int) := by rw [Int.tmod_eq_emod_of_nonneg (by omega)]; exact m1
              have u3 : IntKind.u8.wrap (a3 : Int) = (a3 : Int) := by rw [wrap8]; omega
              have u2 : IntKind.u8.wrap (a2 : Int) = (a2 : Int) := by rw [wrap8]; omega
              have u1 : IntKind.u8.wrap (a1 : Int) = (a1 : Int) := by rw [wrap8]; omega
              have u0 : IntKind.u8.wrap (a0 : Int) = (a0 : Int) := by rw [wrap8]; omega
              have e3 : (a3 : Int) % 256 = (a3 : Int) := by omega
              have e2 : (a2 : Int) % 256 = (a2 : Int) := by omega
              have e1 : (a1 : Int) % 256 = (a1 : Int) := by omega
              have e0 : (a0 : Int) % 256 = (a0 : Int) := by omega
              have v0 : IntKind.u32.wrap (a3 : Int) = (a3 : Int) := by simp [IntKind.wrap, IntKind.bits, IntKind.signed]; omega
              have v1 : IntKind.u32.wrap (b2 : Int) = (b2 : Int) := by simp [IntKind.wrap, IntKind.bits, IntKind.signed]; omega
              have v2 : IntKind.u32.wrap (b1 : Int) = (b1 : Int) := by simp [IntKind.wrap, IntKind.bits, IntKind.signed]; omega
              have v3 : IntKind.u32.wrap (a2 : Int) = (a2 : Int) := by simp [IntKind.wrap, IntKind.bits, IntKind.signed]; omega
              have v4 : IntKind.u32.wrap (a1 : Int) = (a1 : Int) := by simp [IntKind.wrap, IntKind.bits, IntKind.signed]; omega
              have v5 : IntKind.u32.wrap (a0 : Int) = (a0 : Int) := by simp [IntKind.wrap, IntKind.bits, IntKind.signed]; omega
              have ht8 : (t : Int) < 8 := by omega
              clear ha3 hb2 ha2 hb1 ha1 ha0
              obtain ⟨YS, hYS⟩ : ∃ YS, YS = (beL (V.list.take t)).map encB := ⟨_, rfl⟩
              rw [← hYS] at hown
              have HYS := Lib.hid hYS
              clear hYS
              go_wp2_with fail
              obtain ⟨ROW, hROW⟩ : ∃ ROW, Obj.cells (V.arr.map encU) 31 (0, 0) = ROW := ⟨_, rfl⟩
              have hz1r := Z1.out
              rw [hROW] at hz1r
              have hcell := hcx
              have hHb := HBW.out
              have hHz := Z5.out.size
              have hne := own_ne hown hGB
              have hS1 : wr.drew.heap[w.heap.size]? = some ROW ∧ wr.drew.cell? ⟨w.heap.size, t, none⟩ = some (.int .u32 (X : Int)) := ⟨hz1r, hcell⟩
              go_region_held3 (fun w' => w'.heap[w.heap.size]? = some ROW ∧ w'.cell? ⟨w.heap.size, t, none⟩ = some (.int .u32 (X : Int))) (first | exact hS1 | assumption | exact keepA (by assumption) | exact keepG (by assumption) hne (by assumption) | assumption)
                (first | (refine step_append_own rfl _ _ 46 rfl B0 5 i0 _ 1 1 Try.underlying46 hi hz0 hz1 hz2 rfl (by decide) _ _ _ rfl ((owns_drew hown).alloc _) ⟨wr.heap.size, 0, none⟩ 4 4 [.int .u8 (a3 : Int), .int .u8 (a2 : Int), .int .u8 (a1 : Int), .int .u8 (a0 : Int)] rfl rfl ?c1 ?c2 ?c3 ?c4 ?c5 ?_; (case c1 => first | exact cells_new wr _ _ | exact cells_new wr.drew _ _); (case c2 => exact four_one _ _ _ _); (case c3 => (unfold maxLen; omega)); (case c4 => omega); (case c5 => (simp; omega)); intro v' w2 hown' hgrow hnil))
              all_goals
                have HW2 := Lib.hid hown'
                have HNil := Lib.hid hnil
                clear hnil
                have HG2 := Lib.hid hgrow
                have HOy := Lib.hid hown
                clear hown' hgrow hown
                have hz2r : w2.heap[w.heap.size]? = some (.cells (V.arr.map encU) 31 (0, 0)) := by rw [hROW]; exact (by assumption : w2.heap[w.heap.size]? = some ROW ∧ w2.cell? ⟨w.heap.size, t, none⟩ = some (.int .u32 (X : Int))).1
                have HZ2 := Lib.hid hz2r
                clear hz2r hcell hcx hz1r
                go_wp2_with fail
                refine ⟨⟨t + 1, by omega, by go_num, ?_, HZ2.out, ?_, ?_, fun e => HNN.out (HNil.out.1 e).1⟩, ?_⟩
                · rw [HX.out, List.map_append, HV.out, ← HYS.out]; exact HW2.out
                · refine ((Z5.out.drew).alloc (by show _ ≤ wr.heap.size; exact Z5.out.size) _).grown HG2.out (by have := Z5.out.size; simp; omega) ?_
                  intro q hq
                  have := (HOy.out.lt q hq).1
                  omega
                · have h1 := HG2.out.size
                  simp at h1; omega
                · simp [intOf]; omega
            · obtain rfl : t = 8 := by omega
              have hTk : V.list.take 8 = V.list := rfl
              obtain ⟨g, cap2, hv, hcv⟩ := own_conv (l := Q.data.toList) (by rw [hTk, HQ.out] at hown; exact hown) HNN.out
              subst hv
              clear hown
              go_wp2_with fail
              try go_ret
              exact ⟨ret_s (by rw [HS.out]), Z5.out⟩
end Go.Proofs.Ytefjdbgmakddjaa
