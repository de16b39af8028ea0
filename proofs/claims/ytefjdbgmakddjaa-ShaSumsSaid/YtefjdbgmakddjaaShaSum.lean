/- The contracts of Sum and Print. -/
import Derived.Test.YtefjdbgmakddjaaShaPad
import Derived.Test.YtefjdbgmakddjaaShaBlk
import Derived.Test.YtefjdbgmakddjaaShaHex
namespace Go.Proofs.Ytefjdbgmakddjaa
open Go.RowKit
open Sh
set_option linter.unusedVariables false
/-- The first state. -/
def H0 : V8 := ⟨h0 0, h0 1, h0 2, h0 3, h0 4, h0 5, h0 6, h0 7⟩
structure V8.Ok (v : V8) : Prop where
  a : W32 v.a
  b : W32 v.b
  c : W32 v.c
  d : W32 v.d
  e : W32 v.e
  f : W32 v.f
  g : W32 v.g
  h : W32 v.h
theorem h0_w (t : Nat) : W32 (h0 t) := rootI_w _ _
theorem H0_ok : H0.Ok := ⟨h0_w 0, h0_w 1, h0_w 2, h0_w 3, h0_w 4, h0_w 5, h0_w 6, h0_w 7⟩
theorem mod_w (x : Int) : W32 (x % 4294967296) := by unfold W32; omega
theorem fin_ok (v u : V8) : (fin v u).Ok := ⟨mod_w _, mod_w _, mod_w _, mod_w _, mod_w _, mod_w _, mod_w _, mod_w _⟩
theorem blk_ok (k m : Nat → Int) (v : V8) : (blk k m v).Ok := fin_ok _ _
def wdL (l : List UInt8) (t : Nat) : Int := be (l.getD (4 * t) 0) (l.getD (4 * t + 1) 0) (l.getD (4 * t + 2) 0) (l.getD (4 * t + 3) 0)
theorem wd_list (s : ByteArray) : wd s = wdL s.data.toList := rfl
/-- The state behind i blocks. -/
def ssL (L : List UInt8) : Nat → V8
  | 0 => H0
  | i + 1 => blk kc (wdL (L.drop (64 * i))) (ssL L i)
theorem ssL_ok (L : List UInt8) : ∀ i, (ssL L i).Ok
  | 0 => H0_ok
  | i + 1 => blk_ok _ _ _
theorem ssL_succ {L : List UInt8} {i : Nat} {r : ByteArray} (h : r.data.toList = L.drop (64 * i)) : ssL L (i + 1) = blk kc (wd r) (ssL L i) := by
  show blk kc (wdL _) _ = _; rw [← h]; rfl
def V8.list (v : V8) : List Int := [v.a, v.b, v.c, v.d, v.e, v.f, v.g, v.h]
/-- The hash. -/
def sumL (l : List UInt8) : List UInt8 := beL (ssL (padL l) ((padL l).length / 64)).list
theorem sumL_len (l : List UInt8) : (sumL l).length = 32 := by unfold sumL; rw [beL_len]; rfl
theorem list_nn {v : V8} (h : v.Ok) : ∀ x ∈ v.list, 0 ≤ x := by
  intro x hx
  unfold V8.list at hx
  simp at hx
  rcases hx with rfl | rfl | rfl | rfl | rfl | rfl | rfl | rfl
  · exact h.a.1
  · exact h.b.1
  · exact h.c.1
  · exact h.d.1
  · exact h.e.1
  · exact h.f.1
  · exact h.g.1
  · exact h.h.1
theorem re_arr {w : World} {G : Nat} {ty : TypeId} {v : V8} (h : w.heap[G]? = some (.cells (v.arr.map encU) ty (0, 0))) : RE encU w (.slice (some ⟨G, 0, none⟩) 8 8) v.list := by
  refine ⟨some ⟨G, 0, none⟩, 8, rfl, Nat.le_refl _, by unfold maxLen; decide, .inr ⟨G, rfl, row_lt h, fun j hj => ?_⟩⟩
  rw [V8.map] at h
  rw [cell_of_row w G j _ ty (0, 0) h]
  have hj' : j < 8 := hj
  match j, hj' with
  | 0, _ => rfl
  | 1, _ => rfl
  | 2, _ => rfl
  | 3, _ => rfl
  | 4, _ => rfl
  | 5, _ => rfl
  | 6, _ => rfl
  | 7, _ => rfl
theorem H0_arr {d : Array Int} (hd : d.size = 8) (h : ∀ j, j < 8 → d[j]! = h0 j) : d = H0.arr := by
  apply Array.ext (by rw [hd]; rfl)
  intro i h1 h2
  rw [← getElem!_pos d i h1, ← getElem!_pos H0.arr i h2, h i (by omega)]
  have hi : i < 8 := by omega
  match i, hi with
  | 0, _ => rfl
  | 1, _ => rfl
  | 2, _ => rfl
  | 3, _ => rfl
  | 4, _ => rfl
  | 5, _ => rfl
  | 6, _ => rfl
  | 7, _ => rfl
theorem initial_v (w : World) : Calls Try.prog 33 #[] w fun e w' => e = .returned (.agg (H0.arr.map encU)) ∧ Below w.heap.size w w' :=
  (initial_any w).mono fun e w' ⟨⟨d, h1, h2, h3⟩, h4⟩ => ⟨by rw [h1, H0_arr h2 h3], h4⟩
theorem compress_v (v R : V8) (s : ByteArray) (d : Array Int) (w : World) (hv : W32 v.e) (hs : 64 ≤ s.size) (hm : s.size ≤ maxLen) (hd : d.size = 64) (hk : ∀ j, j < 64 → d[j]! = kc j) (hR : blk kc (wd s) v = R) :
    Calls Try.prog 29 #[.agg (v.arr.map encU), .string s, .agg (d.map encU)] w fun e w' => e = .returned (.agg (R.arr.map encU)) ∧ Below w.heap.size w w' := by
  have h := compress_any v s d w hv hs hm hd
  rw [blk_congr (k' := kc) hk, hR] at h
  exact h
theorem Pad_qq (s q : ByteArray) (w : World) (hs : s.size ≤ 4000) (hq : padL s.data.toList = q.data.toList) :
    Calls Try.prog 13 #[.string s] w fun e w' => e = .returned (.string q) ∧ Below w.heap.size w w' :=
  (Pad_any s w hs).mono fun e w' ⟨h1, h2⟩ => ⟨by rw [h1, hq], h2⟩
theorem pad_blocks (l : List UInt8) : (padL l).length % 64 = 0 := by
  rw [padL_len]; unfold padZ; omega
theorem drop_ext (r : ByteArray) (a : Nat) : (r.extract a r.size).data.toList = r.data.toList.drop a := by
  rw [ByteArray.data_extract, Array.toList_extract]
  show (r.data.toList.drop a).take _ = _
  exact List.take_of_length_le (by rw [List.length_drop]; exact Nat.le_refl _)
def strSz : Value → Nat
  | .string s => s.size
  | _ => 0
set_option maxHeartbeats 4000000 in
theorem Sum_any (s : ByteArray) (w : World) (hs : s.size ≤ 3000) :
    Calls Try.prog 19 #[.string s] w fun e w' => e = .returned (.string ⟨(sumL s.data.toList).toArray⟩) ∧ Below w.heap.size w w' := by
  obtain ⟨q, hq⟩ : ∃ q : ByteArray, padL s.data.toList = q.data.toList := ⟨⟨(padL s.data.toList).toArray⟩, by simp⟩
  obtain ⟨L, hL⟩ : ∃ L, q.data.toList = L := ⟨_, rfl⟩
  obtain ⟨M, hM⟩ : ∃ M, L.length / 64 = M := ⟨_, rfl⟩
  have hlen : L.length = 64 * M := by have := pad_blocks s.data.toList; rw [hq, hL] at this; omega
  have hbig : L.length ≤ 4000 := by
    have h := padL_len s.data.toList
    rw [hq, hL] at h
    have hz : padZ s.data.toList.length < 64 := Nat.mod_lt _ (by decide)
    have : s.data.toList.length = s.size := rfl
    omega
  obtain ⟨Q, hQ⟩ : ∃ Q : ByteArray, beL (ssL L M).list = Q.data.toList := ⟨⟨(beL (ssL L M).list).toArray⟩, by simp⟩
  have HS : Hid (sumL s.data.toList = Q.data.toList) := Lib.hid (by unfold sumL; rw [hq, hL, hM]; exact hQ)
  have HQ := Lib.hid hQ
  have HP := Lib.hid hq
  have HL := Lib.hid hL
  have HLen : Hid (L.length = 64 * M ∧ L.length ≤ 4000) := Lib.hid ⟨hlen, hbig⟩
  have HI8 := Lib.hid fun u : V8 => (show (Try.prog.info? 32).map (·.size) = some (u.arr.map encU).size by rw [size8]; exact info8)
  have HO8 := Lib.hid fun u : V8 => cells_one u.arr
  clear hQ hq hL hM hlen hbig
  go_enter Try.func19, Try.ntmps19
  go_wp2_with fail
  refine (initial_v _).mono ?_
  rintro e w1 ⟨rfl, hb1⟩
  go_wp2_with fail
  refine (constants_any _).mono ?_
  rintro e w2 ⟨⟨d, rfl, hd, hk⟩, hb2⟩
  have B2 := Lib.hid (hb1.trans (hb2.mono hb1.size))
  have HK := Lib.hid hk
  have HI64 : Hid ((Try.prog.info? 49).map (·.size) = some (d.map encU).size) := Lib.hid (by rw [Array.size_map, hd]; exact info64)
  have HO64 := Lib.hid (cells_one d)
  have HN8 := Lib.hid (row_alloc (row_new w2 (.cells (Array.replicate 8 (.int .u32 0)) 32)) (.cells (Array.replicate 64 (.int .u32 0)) 49))
  have HN64 := Lib.hid (row_new1 w2 (.cells (Array.replicate 8 (.int .u32 0)) 32) (.cells (Array.replicate 64 (.int .u32 0)) 49))
  have HB0 := Lib.hid ((B2.out.alloc B2.out.size (.cells (Array.replicate 8 (.int .u32 0)) 32)).alloc (by have := B2.out.size; simp; omega) (.cells (Array.replicate 64 (.int .u32 0)) 49))
  have hG0 : w.heap.size ≤ w2.heap.size := B2.out.size
  clear hb1 hb2 hk
  go_wp2_with (first
    | (refine store_rowE rfl 32 _ _ rfl w2.heap.size (H0.arr.map encU) rfl rfl 32 _ HN8.out (HI8.out H0) (by rw [size8]; rfl) (HO8.out H0) ?_; intro w3 hw3; have q0 := Lib.hid (row_self HN8.out hw3); have q1 := Lib.hid (row_oth HN64.out hw3 (by omega)); have q5 := Lib.hid (below_set HB0.out hw3 hG0); clear hw3)
    | (refine store_rowE rfl 49 _ _ rfl (w2.heap.size + 1) (d.map encU) rfl rfl 49 _ q1.out HI64.out (by rw [Array.size_map, hd]; rfl) HO64.out ?_; intro w4 hw4; have r0 := Lib.hid (row_oth q0.out hw4 (by omega)); have r1 := Lib.hid (row_self q1.out hw4); have r5 := Lib.hid (below_set q5.out hw4 (by omega)); clear hw4)
    | (go_at_call 13; refine (Pad_qq s q _ (by omega) HP.out).mono ?_; rintro e w5 ⟨rfl, hb5⟩; have z0 := Lib.hid (row_below r0.out hb5 (row_lt r0.out)); have z1 := Lib.hid (row_below r1.out hb5 (row_lt r1.out)); have z5 := Lib.hid (r5.out.trans (hb5.mono r5.out.size)); clear hb5))
  obtain ⟨G, hG⟩ : ∃ G, w2.heap.size = G := ⟨_, rfl⟩
  rw [hG] at z0 z1 hG0 ⊢
  clear hG HN8 HN64 HB0 q0 q1 q5 r0 r1 r5
  go_loopw [5] (fun sr wr => ∃ i : Nat, ∃ r : ByteArray, i ≤ M ∧ sr = .string r ∧ r.data.toList = L.drop (64 * i) ∧ wr.heap[G]? = some (.cells ((ssL L i).arr.map encU) 32 (0, 0)) ∧ wr.heap[G + 1]? = some (.cells (d.map encU) 49 (0, 0)) ∧ Below w.heap.size w wr) (fun sr _ => strSz sr)
  case atStart => exact ⟨0, q, Nat.zero_le _, rfl, by rw [HL.out, Nat.mul_zero, List.drop_zero], z0.out, z1.out, z5.out⟩
  case round =>
    clear z0 z1 z5
    obtain ⟨i, r, hi, rfl, hr, z0, z1, z5⟩ := hrel
    have Z0 := Lib.hid z0
    have Z1 := Lib.hid z1
    have Z5 := Lib.hid z5
    have HRr := Lib.hid hr
    have hrs : r.size = 64 * M - 64 * i := by
      have h := congrArg List.length hr
      rw [List.length_drop, HLen.out.1] at h
      exact h
    clear z0 z1 z5 hr
    by_cases hlt : i < M
    · have h64 : 64 ≤ r.size := by omega
      have hmx : r.size ≤ 4000 := by have h1 := HLen.out.1; have h2 := HLen.out.2; omega
      obtain ⟨R, hR⟩ : ∃ R, blk kc (wd r) (ssL L i) = R := ⟨_, rfl⟩
      have HSu : Hid (ssL L (i + 1) = R) := Lib.hid ((ssL_succ HRr.out).trans hR)
      have HC := Lib.hid fun w0 => compress_v (ssL L i) R r d w0 (ssL_ok L i).e h64 (by unfold maxLen; omega) hd HK.out hR
      have hne : (r.toList == []) = false := by rw [ByteArray.toList_eq]; exact beq_eq_false_iff_ne.2 (fun e => by have h3 : r.size = 0 := congrArg List.length e; omega)
      have hne2 : r.toList.isEmpty = false := by
        cases hx : r.toList with
        | nil => rw [hx] at hne; simp at hne
        | cons _ _ => rfl
      have hne3 : ¬ r.toList = [] := by intro e; rw [e] at hne; simp at hne
      have hext : Hid ((r.extract 64 r.size).data.toList = L.drop (64 * (i + 1))) := Lib.hid (by rw [drop_ext, HRr.out, List.drop_drop]; congr 1)
      have h64z : (64 : Int) ≤ (r.size : Int) := by omega
      have hsz : (r.extract 64 r.size).size = r.size - 64 := by rw [ByteArray.size_extract]; omega
      clear hR hrs
      go_wp2_with (first
        | (refine wpList_load_row rfl 32 _ rfl G rfl 32 ((ssL L i).arr.map encU) (0, 0) _ Z0.out Try.underlying32 rfl (HI8.out _) ?_)
        | (refine wpList_load_row rfl 49 _ rfl (G + 1) rfl 49 (d.map encU) (0, 0) _ Z1.out Try.underlying49 rfl HI64.out ?_)
        | (go_at_call 29; refine (HC.out _).mono ?_; rintro e w6 ⟨rfl, hb6⟩; have y0 := Lib.hid (row_below Z0.out hb6 (row_lt Z0.out)); have y1 := Lib.hid (row_below Z1.out hb6 (row_lt Z1.out)); have y5 := Lib.hid (Z5.out.trans (hb6.mono Z5.out.size)); clear hb6)
        | (refine store_rowE rfl 32 _ _ rfl G (R.arr.map encU) rfl rfl 32 _ y0.out (HI8.out R) (by rw [size8, size8]) (HO8.out R) ?_; intro w7 hw7; have x0 := Lib.hid (row_self y0.out hw7); have x1 := Lib.hid (row_oth y1.out hw7 (by omega)); have x5 := Lib.hid (below_set y5.out hw7 hG0); clear hw7))
      exact ⟨⟨i + 1, _, by omega, rfl, hext.out, by rw [HSu.out]; exact x0.out, x1.out, x5.out⟩, by show (r.extract 64 r.size).size < r.size; omega⟩
    · have hiM : i = M := by omega
      subst hiM
      have h0 : r.size = 0 := by omega
      have hr0 : r = ⟨#[]⟩ := by
        cases r with
        | mk a => have : a = #[] := Array.eq_empty_of_size_eq_zero h0
                  rw [this]
      subst hr0
      have HB := Lib.hid fun w0 hre => bigEndian_q (.slice (some ⟨G, 0, none⟩) 8 8) (ssL L i).list Q w0 hre (by show 8 ≤ 100; decide) (list_nn (ssL_ok L i)) HQ.out
      clear hrs h0
      go_wp2_with fail
      refine (HB.out _ (re_arr Z0.out)).mono ?_
      rintro e w8 ⟨rfl, hb8⟩
      go_wp2_with fail
      go_ret
      exact ⟨ret_s (by rw [HS.out]), Z5.out.trans (hb8.mono Z5.out.size)⟩
theorem Print_any (s : ByteArray) (w : World) (hs : s.size ≤ 3000) :
    Calls Try.prog 21 #[.string s] w fun e w' => e = .returned (.string ⟨(hexL (sumL s.data.toList)).toArray⟩) ∧ Below w.heap.size w w' := by
  obtain ⟨Q, hQ⟩ : ∃ Q : ByteArray, sumL s.data.toList = Q.data.toList := ⟨⟨(sumL s.data.toList).toArray⟩, by simp⟩
  have hQs : Q.size = 32 := by have h := sumL_len s.data.toList; rw [hQ] at h; exact h
  have HS := Lib.hid fun w0 => (Sum_any s w0 hs).mono (R' := fun e w' => e = .returned (.string Q) ∧ Below w0.heap.size w0 w') fun e w' ⟨h1, h2⟩ => ⟨by rw [h1, hQ], h2⟩
  have HH := Lib.hid fun w0 => Hex_any Q w0 (by omega)
  rw [hQ]
  clear hQ
  go_enter Try.func21, Try.ntmps21
  go_wp2_with fail
  refine (HS.out _).mono ?_
  rintro e w1 ⟨rfl, hb1⟩
  go_wp2_with fail
  refine (HH.out _).mono ?_
  rintro e w2 ⟨rfl, hb2⟩
  go_wp2_with fail
  try go_ret
  exact ⟨rfl, hb1.trans (hb2.mono hb1.size)⟩
theorem hexL_len32 {l : List UInt8} (h : l.length = 32) : (hexL l).length = 64 := by rw [hexL_len, h]
end Go.Proofs.Ytefjdbgmakddjaa
