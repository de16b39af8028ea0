/- The reference's cut and address. -/
import Derived.Test.YtkgfinhepbipeaaDoorPrtMath
import Derived.Test.YtkgfinhepbipeaaDoorNamRd
import Derived.Test.YtkgfinhepbipeaaDoorRefDig3
import Derived.Maps.AppendAt
import Derived.Deep.LoopGhost
namespace Go.Proofs.YtkgfinhepbipeaaDoor
open Go.RowKit Go.Sort
open Nw Dg P16
set_option linter.unusedVariables false
set_option linter.unusedSimpArgs false
theorem drop_cP (s : ByteArray) (k : Nat) (h : k < s.size) : s.data.toList.drop k = s[k]'h :: s.data.toList.drop (k + 1) := List.drop_eq_getElem_cons (show k < s.data.toList.length from h)
theorem drop_nP (s : ByteArray) (k : Nat) (h : s.size ≤ k) : s.data.toList.drop k = [] := List.drop_eq_nil_of_le h
theorem u8_tP {c d : UInt8} (h : c = d) : ((c.toNat : Int) == (d.toNat : Int)) = true := by rw [h]; exact beq_self_eq_true _
theorem u8_fP {c d : UInt8} (h : ¬ c = d) : ((c.toNat : Int) == (d.toNat : Int)) = false := beq_eq_false_iff_ne.2 fun e => h (UInt8.toNat_inj.1 (by omega))
theorem ext_takeP (s : ByteArray) (a e : Nat) : (s.extract a e).data.toList = (s.data.toList.drop a).take (e - a) := by
  rw [ByteArray.data_extract, Array.toList_extract, List.extract_eq_take_drop]
theorem take_stepP (s : ByteArray) {f k : Nat} (hf : f ≤ k) (h : k < s.size) : (s.data.toList.drop f).take (k + 1 - f) = (s.data.toList.drop f).take (k - f) ++ [s[k]'h] := by
  have h1 : k - f < (s.data.toList.drop f).length := by rw [List.length_drop]; show k - f < s.size - f; omega
  rw [show k + 1 - f = (k - f) + 1 by omega, List.take_succ_eq_append_getElem h1, List.getElem_drop]
  congr 2
  have e : ∀ (m : Nat) (hm : m < s.data.toList.length), m = k → s.data.toList[m]'hm = s[k]'h := by rintro m hm rfl; rfl
  exact e _ _ (by omega)
theorem cutA_size (c : UInt8) : ∀ (l acc p : L8), p ∈ cutA c acc l → p.length ≤ acc.length + l.length
  | [], acc, p, h => by
    rw [cutA] at h
    obtain rfl := List.mem_singleton.1 h
    simp
  | x :: r, acc, p, h => by
    rw [cutA] at h
    split at h
    · rcases List.mem_cons.1 h with rfl | h
      · omega
      · have := cutA_size c r [] p h; rw [List.length_cons]; simp at this; omega
    · have := cutA_size c r _ p h; rw [List.length_append, List.length_singleton] at this; rw [List.length_cons]; omega
theorem infoSPa : (Tryd.prog.info? 9).map (fun i => (i.zero, i.size, i.bytes)) = some (some (.string ByteArray.empty), 1, 16) := by kernel_rfl
theorem infoSP : ∃ i, Tryd.prog.info? 9 = some i ∧ i.zero = some (.string ByteArray.empty) ∧ i.size = 1 ∧ i.bytes = 16 := by
  have h := infoSPa
  cases hi : Tryd.prog.info? 9 with
  | none => rw [hi] at h; cases h
  | some i =>
    rw [hi] at h
    simp only [Option.map_some, Option.some.injEq, Prod.mk.injEq] at h
    exact ⟨i, rfl, h.1, h.2.1, h.2.2⟩
theorem own_litP (w : World) : (w.alloc (.cells #[] 9)).ownsRow w.heap.size 9 1 (.slice (some ⟨w.heap.size, 0, none⟩) 0 0) (([] : List L8)).length ((([] : List L8)).map encStr) := World.ownsRow_made w #[] 0 (Nat.le_refl _) (Nat.zero_le _) (by simp)
theorem own_shapeP {w : World} {base n size : Nat} {e : TypeId} {v : Value} {xs : List Value} (h : w.ownsRow base e size v n xs) : ∃ a c, v = .slice a n c := by
  rcases h.2 with ⟨rfl, rfl⟩ | ⟨g, cap, cur, rfl, _⟩
  · exact ⟨none, 0, rfl⟩
  · exact ⟨_, cap, rfl⟩
theorem grow_endP {w W W3 : World} {L : List L8} {O : ByteArray} {v v' : Value} {ln : Nat} {XS : List Value} {o : Obj} (hown : W.ownsRow w.heap.size 9 1 v ln XS) (hown' : W3.ownsRow w.heap.size 9 1 v' (ln + 1) (XS ++ [.string O])) (hg : (W.alloc o).grownBy W3 v.ownBlock) (hB : Below w.heap.size w W) (hln : L.length = ln) (hXS : L.map encStr = XS) :
    W3.ownsRow w.heap.size 9 1 v' (L ++ [O.data.toList]).length ((L ++ [O.data.toList]).map encStr) ∧ Below w.heap.size w W3 := by
  refine ⟨?_, ?_⟩
  · rw [List.length_append, List.map_append, hln, hXS]
    have e : [O.data.toList].map encStr = [Value.string O] := by simp [encStr, ba_of]
    rw [e]; exact hown'
  · exact (hB.alloc hB.size o).grown hg (by have := hB.size; simp; omega) fun q hq => (hown.lt q hq).1
set_option maxRecDepth 100000 in
set_option maxHeartbeats 16000000 in
theorem RCut16_any (s : ByteArray) (c : UInt8) (w : World) (hs : s.size ≤ 100000) :
    Calls Tryd.prog 21 #[.string s, .int .u8 c.toNat] w fun e w' => ∃ v, e = .returned v ∧ Rd w' v (cutL c s.data.toList) ∧ Below w.heap.size w w' ∧ ∀ b, v.ownBlock = some b → w.heap.size ≤ b := by
  obtain ⟨i0, hi, hz0, hz1, hz2⟩ := infoSP
  obtain ⟨n, hn⟩ : ∃ n, s.size = n := ⟨_, rfl⟩
  have HSN := Lib.hid hn
  have hn1 : n ≤ 100000 := by omega
  have HO0 := Lib.hid (own_litP w)
  have HB0 : Hid (Below w.heap.size w (w.alloc (.cells #[] 9))) := Lib.hid ((Below.refl _ _).alloc (Nat.le_refl _) _)
  obtain ⟨R, hR⟩ : ∃ R, cutL c s.data.toList = R := ⟨_, rfl⟩
  have HR0 : Hid ([] ++ cutA c ((s.data.toList.drop 0).take (0 - 0)) (s.data.toList.drop 0) = R) := Lib.hid (by rw [List.nil_append, List.drop_zero, List.take_zero]; exact hR)
  rw [hR]
  clear hR
  go_enter Tryd.func21, Tryd.ntmps21
  go_wp2
  go_loopw [5, 6, 7] (fun sv sf si wr => ∃ (k f : Nat) (L : List L8), f ≤ k ∧ k ≤ n ∧ L.length ≤ k ∧ si = .int .i64 (k : Int) ∧ sf = .int .i64 (f : Int) ∧ Hid (wr.ownsRow w.heap.size 9 1 sv L.length (L.map encStr)) ∧ Hid (Below w.heap.size w wr) ∧ Hid (L ++ cutA c ((s.data.toList.drop f).take (k - f)) (s.data.toList.drop k) = R)) (fun _ _ si _ => n - (intOf si).toNat)
  case atStart => exact ⟨0, 0, [], Nat.le_refl _, Nat.zero_le _, Nat.zero_le _, rfl, rfl, HO0, HB0, HR0⟩
  case round =>
    clear HO0 HB0 HR0
    obtain ⟨k, f, L, hfk, hk, hLk, rfl, rfl, HO, HB, HR⟩ := hrel
    have hfz : (f : Int) ≤ (k : Int) := by omega
    have hkz2 : (k : Int) ≤ (n : Int) := by omega
    obtain ⟨O, hO⟩ : ∃ O, s.extract f k = O := ⟨_, rfl⟩
    have HOO := Lib.hid hO
    have hown := HO.out
    obtain ⟨va, vc, rfl⟩ := own_shapeP hown
    obtain ⟨ln, hln⟩ : ∃ ln, L.length = ln := ⟨_, rfl⟩
    obtain ⟨XS, hXS⟩ : ∃ XS, L.map encStr = XS := ⟨_, rfl⟩
    rw [hln, hXS] at hown
    rw [hln] at hLk
    rw [hln]
    have HLN := Lib.hid hln
    have HXS := Lib.hid hXS
    by_cases hlt : k < n
    · have hks : k < s.size := by omega
      have hkz : (k : Int) < (n : Int) := by omega
      have hdk := drop_cP s k hks
      obtain ⟨x, hx⟩ : ∃ x, s[k]'hks = x := ⟨_, rfl⟩
      rw [hx] at hdk
      have kw : IntKind.i64.wrap ((k : Int) + 1) = (k : Int) + 1 := IntWalk.i64_in _ (by omega)
      by_cases hxc : x = c
      · have t1 := u8_tP hxc
        have HN : Hid ((L ++ [O.data.toList]) ++ cutA c ((s.data.toList.drop (k + 1)).take (k + 1 - (k + 1))) (s.data.toList.drop (k + 1)) = R) := Lib.hid (by
          have := HR.out
          rw [hdk, cutA, if_pos hxc, ← ext_takeP, HOO.out] at this
          rw [Nat.sub_self, List.take_zero, List.append_assoc]
          exact this)
        clear hdk hxc hln hXS
        go_wp2_with (at_builtin; refine wpList_append_own _ rfl _ _ 39 rfl w.heap.size 9 i0 _ 1 16 Tryd.underlying39 hi hz0 hz1 hz2 rfl (by decide) _ _ _ rfl (hown.alloc _) ⟨_, 0, none⟩ 1 1 [.string O] rfl rfl ?c1 ?c2 ?c3 ?c4 ?c5 ?_)
        case c1 =>
          intro j u hj
          match j, hj with
          | 0, hj => simp at hj; subst hj; simp [Addr.add]
        case c2 => intro u hu; simp at hu; subst hu; rfl
        case c3 => unfold maxLen; omega
        case c4 => omega
        case c5 => have := HB.out.size; simp; omega
        · intro v' w3 hown' hgrow _
          have HF := Lib.hid (grow_endP hown hown' hgrow HB.out HLN.out HXS.out)
          clear hown' hgrow hown
          go_wp2
          go_roundw
          case rel => exact ⟨k + 1, k + 1, L ++ [O.data.toList], Nat.le_refl _, by omega, by rw [List.length_append, HLN.out]; show ln + 1 ≤ k + 1; omega, by go_num, by go_num, Lib.hid HF.out.1, Lib.hid HF.out.2, HN⟩
          case measure => simp [intOf]; omega
      · have t1 := u8_fP hxc
        have HN : Hid (L ++ cutA c ((s.data.toList.drop f).take (k + 1 - f)) (s.data.toList.drop (k + 1)) = R) := Lib.hid (by
          have := HR.out
          rw [hdk, cutA, if_neg hxc] at this
          rw [take_stepP s hfk hks, hx]; exact this)
        clear hdk hxc hln hXS hown
        go_wp2
        go_roundw
        case rel => exact ⟨k + 1, f, L, by omega, by omega, by rw [HLN.out]; omega, by go_num, rfl, Lib.hid (by have := HO.out; rw [HLN.out] at this; rw [HLN.out]; exact this), HB, HN⟩
        case measure => simp [intOf]; omega
    · obtain rfl : k = n := by omega
      have HE : Hid (R = L ++ [O.data.toList]) := Lib.hid (by
        have := HR.out
        rw [drop_nP s k (by have := HSN.out; omega), cutA, ← ext_takeP, HOO.out] at this
        exact this.symm)
      clear hln hXS hlt
      go_wp2_with (at_builtin; refine wpList_append_own _ rfl _ _ 39 rfl w.heap.size 9 i0 _ 1 16 Tryd.underlying39 hi hz0 hz1 hz2 rfl (by decide) _ _ _ rfl (hown.alloc _) ⟨_, 0, none⟩ 1 1 [.string O] rfl rfl ?d1 ?d2 ?d3 ?d4 ?d5 ?_)
      case d1 =>
        intro j u hj
        match j, hj with
        | 0, hj => simp at hj; subst hj; simp [Addr.add]
      case d2 => intro u hu; simp at hu; subst hu; rfl
      case d3 => unfold maxLen; omega
      case d4 => omega
      case d5 => have := HB.out.size; simp; omega
      · intro v' w3 hown' hgrow _
        have HF := Lib.hid (grow_endP hown hown' hgrow HB.out HLN.out HXS.out)
        clear hown' hgrow hown
        go_wp2
        go_ret
        exact ⟨v', rfl, by rw [HE.out]; exact rd_of_owns HF.out.1, HF.out.2, fun b hb => (HF.out.1.lt b hb).1⟩
end Go.Proofs.YtkgfinhepbipeaaDoor
