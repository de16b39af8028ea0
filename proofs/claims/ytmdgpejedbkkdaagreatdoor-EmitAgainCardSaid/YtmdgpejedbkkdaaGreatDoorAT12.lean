/- QuoOwn, QuoScD, QuoScS, ShelfB, QuoSingle -/
import Derived.Below
import Derived.ChangeAlike
import Derived.Deep.LoopGhost
import Derived.Deep.RegionLaw
import Derived.Laws.AppendOwnNone
import Derived.Laws.BytesArg
import Derived.Lib.OwnBridge
import Derived.Maps.AppendAt
import Derived.OwnWalk
import Derived.RegionTactic
import Derived.Shelf.Lay
import Derived.Shelf.Strings.Replace
import Derived.Shelf.Strings.Search3
import Derived.Shelf.Strings.Split
import Derived.Shelf.Vars
import Derived.Sort.OwnSorted
import Derived.Test.YtmdgpejedbkkdaaGreatDoorAT11
import Derived.Test.YtmdgpejedbkkdaaGreatDoorProg
import Derived.WalkSpells
set_option linter.unusedVariables false
set_option linter.unusedSimpArgs false
set_option maxRecDepth 100000
set_option maxHeartbeats 16000000
open Go.Lib (hid)
namespace Go.Proofs.YtmdgpejedbkkdaaGreatDoor
section
open Go.RowKit Go.Sort
open Q6
def encB (c : UInt8) : Value := .int .u8 (c.toNat : Int)
theorem infoB0 : (Tryz.prog.info? 5).map (fun i => (i.zero, i.size, i.bytes)) = some (some (.int .u8 0), 1, 1) := by kernel_rfl
theorem infoB : ∃ i, Tryz.prog.info? 5 = some i ∧ i.zero = some (.int .u8 0) ∧ i.size = 1 ∧ i.bytes = 1 := by
 have h := infoB0
 cases hi : Tryz.prog.info? 5 with
 | none => rw [hi] at h; cases h
 | some i =>
  rw [hi] at h
  simp only [Option.map_some, Option.some.injEq, Prod.mk.injEq] at h
  exact ⟨i, rfl, h.1, h.2.1, h.2.2⟩
theorem nums_of (l : List UInt8) : strOfNums (l.map fun c => (c.toNat : Int)) = ⟨l.toArray⟩ := by
 unfold strOfNums
 congr 2
 rw [List.map_map]
 conv => rhs; rw [← List.map_id l]
 apply List.map_congr_left
 intro c _
 simp
theorem conv_read {w' : World} {b len cap : Nat} {l : List UInt8} (hcell : ∀ i (hi : i < l.length), w'.cell? ⟨b, i, none⟩ = some (encB l[i])) (hlen : l.length = len) :
  (convert 40 9 (.slice (some ⟨b, 0, none⟩) len cap)).run Tryz.prog w' = .ok (.string ⟨l.toArray⟩) w' := by
 have h := run_convert_bytes_arg (P := Tryz.prog) w' 40 5 Tryz.underlying40 Tryz.underlying5 b 0 len cap (l.map fun c => (c.toNat : Int)) (by simpa using hlen) (fun i hi => by
  rw [Nat.zero_add, hcell i (by omega)]
  simp [List.getD, List.getElem?_eq_getElem (show i < l.length by omega), encB]) 9 Tryz.underlying9
 subst hlen
 rw [h, nums_of]
theorem own_conv {wr : World} {base n : Nat} {v : Value} {l : List UInt8} (h : wr.ownsRow base 5 1 v n (l.map encB)) (hv : v ≠ .slice none 0 0) :
  ∃ g cap, v = .slice (some ⟨g, 0, none⟩) n cap ∧ (convert 40 9 (.slice (some ⟨g, 0, none⟩) n cap)).run Tryz.prog wr = .ok (.string ⟨l.toArray⟩) wr := by
 obtain ⟨g, cap, rfl, _, hg, h1, h2, hl, hH⟩ := Lib.holds_of_ownsRow h hv
 refine ⟨g, cap, rfl, conv_read (fun i hi => ?_) hl⟩
 have := (hH i (by simpa using hi)).1
 rw [getElem!_pos l.toArray i (by simpa using hi), Nat.zero_add] at this
 simpa using this
theorem conv_nil (w : World) : (convert 40 9 (.slice none 0 0)).run Tryz.prog w = .ok (.string ⟨#[]⟩) w :=
 run_convert_bytes_nil (P := Tryz.prog) w 40 5 Tryz.underlying40 Tryz.underlying5 0 0 9 Tryz.underlying9
theorem own_none {wr : World} {base n : Nat} {l : List UInt8} (h : wr.ownsRow base 5 1 (.slice none 0 0) n (l.map encB)) : n = 0 ∧ l = [] := by
 rcases h.2 with ⟨_, h0⟩ | ⟨g, cap, cur, h0, _⟩
 ·refine ⟨h0, ?_⟩
  have hl : (l.map encB).length = n * 1 := h.1
  rw [List.length_map] at hl
  exact List.length_eq_zero_iff.1 (by omega)
 ·cases h0
theorem own_cases {wr : World} {base n : Nat} {v : Value} {l : List UInt8} (h : wr.ownsRow base 5 1 v n (l.map encB)) :
  (v = .slice none 0 0 ∧ l = []) ∨ ∃ g cap, v = .slice (some ⟨g, 0, none⟩) n cap ∧ (convert 40 9 (.slice (some ⟨g, 0, none⟩) n cap)).run Tryz.prog wr = .ok (.string ⟨l.toArray⟩) wr := by
 by_cases hv : v = .slice none 0 0
 ·subst hv; exact .inl ⟨rfl, (own_none h).2⟩
 ·exact .inr (own_conv h hv)
theorem own_len {wr : World} {base n : Nat} {v : Value} {l : List UInt8} (h : wr.ownsRow base 5 1 v n (l.map encB)) : l.length = n := by
 have hl : (l.map encB).length = n * 1 := h.1
 rw [List.length_map] at hl
 omega
theorem row_new (w : World) (o : Obj) : (w.alloc o).heap[w.heap.size]? = some o := by
 show (w.heap.push o)[w.heap.size]? = some o
 simp
theorem cells_new (w : World) (c : Array Value) (t : TypeId) : ∀ j u, c.toList[j]? = some u → (w.alloc (.cells c t)).cell? ((⟨w.heap.size, 0, none⟩ : Addr).add j) = some u := by
 intro j u h
 have hadd : (⟨w.heap.size, 0, none⟩ : Addr).add j = ⟨w.heap.size, j, none⟩ := by unfold Addr.add; split <;> simp_all
 rw [hadd, cell_of_row _ _ j c t (0, 0) (row_new w _)]
 simpa using h
theorem one_one (a : Int) : ∀ u ∈ [Value.int .u8 a], u.oneCell' = true := by
 intro u hu
 simp at hu
 subst hu; rfl
theorem two_one (a b : Int) : ∀ u ∈ [Value.int .u8 a, Value.int .u8 b], u.oneCell' = true := by
 intro u hu
 simp at hu
 rcases hu with rfl | rfl <;> rfl
theorem four_one (a b c d : Int) : ∀ u ∈ [Value.int .u8 a, Value.int .u8 b, Value.int .u8 c, Value.int .u8 d], u.oneCell' = true := by
 intro u hu
 simp at hu
 rcases hu with rfl | rfl | rfl | rfl <;> rfl
theorem owns_drew {w : World} {base n size : Nat} {e : TypeId} {v : Value} {xs : List Value} (h : w.ownsRow base e size v n xs) : w.drew.ownsRow base e size v n xs := h
theorem owns_drewN {w : World} {base n size : Nat} {e : TypeId} {v : Value} {xs : List Value} (h : w.ownsRow base e size v n xs) (q : Nat) : (w.drewN q).ownsRow base e size v n xs := h
theorem owns_nil (w : World) (base : Nat) (e : TypeId) : w.ownsRow base e 1 (.slice none 0 0) 0 [] := ⟨rfl, .inl ⟨rfl, rfl⟩⟩
theorem belowD (w : World) (q : Nat) : Below w.heap.size w (w.drewN q) := ⟨rfl, rfl, rfl, Nat.le_refl _, fun _ _ => rfl⟩
theorem Below.dr {w w2 : World} {b : Nat} (h : Below b w w2) (hb : b ≤ w2.heap.size) (n : Nat) : Below b w (w2.drewN n) := h.trans ((belowD w2 n).mono hb)
theorem ret_sii {a b : ByteArray} {m n e f : Int} (h : a = b) (g : m = n) (k : e = f) : Ending.returned (.tuple #[.string a, .int .i64 m, .int .i64 e]) = .returned (.tuple #[.string b, .int .i64 n, .int .i64 f]) := by rw [h, g, k]
theorem bytes_ext {a b : ByteArray} (h : a.data.toList = b.data.toList) : a = b := by
 cases a; cases b; simp at h; simp [h]
theorem data_app (a b : ByteArray) : (a ++ b).data.toList = a.data.toList ++ b.data.toList := by
 rw [ByteArray.data_append]; simp
theorem mk_of {l : List UInt8} {a : ByteArray} (h : l = a.data.toList) : (⟨l.toArray⟩ : ByteArray) = a := bytes_ext (by simp [h])
theorem map_snoc (l : List UInt8) (c : UInt8) : (l ++ [c]).map encB = l.map encB ++ [.int .u8 (c.toNat : Int)] := by simp [encB]
end
section
open Go.RowKit Go.Sort
open Q6
theorem denoted_q (s : ByteArray) (l : List UInt8) (v : UInt8) (m : Nat) (w : World) (hs : s.size ≤ maxLen) (hl : s.data.toList = l) (h0 : 1 ≤ l.length) (h : den l = (v, m)) :
  Calls Tryz.prog 137 #[.string s] w fun e w' => e = .returned (.tuple #[.int .u8 v.toNat, .int .i64 m]) ∧ ∃ q, w' = w.drewN q := by
 subst hl; exact denoted_any s v m w hs (by rw [← len_eq]; exact h0) h
theorem rest_data (s : ByteArray) (k : Nat) : (s.extract k s.size).data.toList = s.data.toList.drop k := by
 rw [Lib.extract_data]
 exact List.take_of_length_le (by rw [List.length_drop, len_eq]; exact Nat.le_refl _)
theorem rest_size (s : ByteArray) (k : Nat) (h : k ≤ s.size) : (s.extract k s.size).size = s.size - k := by
 rw [ByteArray.size_extract]; omega
theorem scanDouble_any (s : ByteArray) (k0 : Nat) (w : World) (hs : s.size ≤ 1000000) (hk0 : k0 ≤ s.size) (q : ByteArray) (x y : Int)
  (hq : outV (atD s.data.toList [] k0) = q.data.toList) (hx : outN (atD s.data.toList [] k0) = x) (hy : outE (atD s.data.toList [] k0) = y) :
  Calls Tryz.prog 122 #[.string s, .int .i64 (k0 : Int)] w fun e w' => e = .returned (.tuple #[.string q, .int .i64 x, .int .i64 y]) ∧ Below w.heap.size w w' := by
 obtain ⟨i0, hi, hz0, hz1, hz2⟩ := infoB
 have HOUT : Hid (outV (atD s.data.toList [] k0) = q.data.toList ∧ outN (atD s.data.toList [] k0) = x ∧ outE (atD s.data.toList [] k0) = y) := hid ⟨hq, hx, hy⟩
 clear hq hx hy
 obtain ⟨R, hR⟩ : ∃ R, atD s.data.toList [] k0 = R := ⟨_, rfl⟩
 rw [hR] at HOUT
 have HR0 := hid hR
 clear hR
 have HLEN := hid (len_eq s)
 have HO1 := hid (owns_nil w w.heap.size 5)
 obtain ⟨n, hn⟩ : ∃ n, s.size = n := ⟨_, rfl⟩
 have hsn : n ≤ 1000000 := by omega
 go_enter Tryz.func122, Tryz.ntmps122
 go_wp2
 go_loopw [1, 7] (fun si sv wr => ∃ (k : Nat) (acc : List UInt8), k ≤ n ∧ acc.length ≤ k ∧ si = .int .i64 (k : Int) ∧ wr.ownsRow w.heap.size 5 1 sv acc.length (acc.map encB) ∧ Below w.heap.size w wr ∧ Hid (atD s.data.toList acc k = R)) (fun si _ _ => n - (intOf si).toNat)
 case atStart => exact ⟨k0, [], by omega, Nat.zero_le _, rfl, HO1.out, Below.refl _ _, HR0⟩
 case round =>
  clear HO1 HR0
  obtain ⟨k, acc, hk, hak, rfl, hown, hbel, HR⟩ := hrel
  have HO := hid hown
  have HB := hid hbel
  clear hbel
  by_cases hlt : k < n
  ·have hks : k < s.size := by omega
   have hkl : k < s.data.toList.length := by rw [HLEN.out]; exact hks
   have hskz : (k : Int) < (n : Int) := by omega
   have hg : s.data.toList.getD k 0 = s[k]'hks := getd s k hks
   obtain ⟨c, hc⟩ : ∃ c, s[k]'hks = c := ⟨_, rfl⟩
   rw [hc] at hg
   have HG := hid hg
   have HKL := hid hkl
   clear hg hkl
   by_cases h34 : c = 34
   ·have m34 : ((c.toNat : Int) != 34) = false := by rw [isC_bne 34 c 34 rfl, isC_iff.2 h34]; rfl
    have m34' : ((c.toNat : Int) == 34) = true := by rw [isC_beq 34 c 34 rfl, isC_iff.2 h34]
    have HE := hid (HR.out.symm.trans (atD_end (acc := acc) HKL.out (HG.out.trans h34)))
    clear h34
    have hkn : ((k : Int) == (n : Int)) = false := beq_eq_false_iff_ne.2 (by omega)
    have hkn' : ¬ (k : Int) = (n : Int) := by omega
    rcases own_cases hown with ⟨hv, hA⟩ | ⟨g, cap, hv2, hcv⟩
    ·subst hv
     have HA := hid hA
     clear hown hA
     have hcv := conv_nil wr
     go_wp2
     go_ret3
     exact ⟨ret_sii (bytes_ext (by rw [← HOUT.out.1, HE.out, HA.out]; rfl)) (by rw [← HOUT.out.2.1, HE.out]; rfl) (by rw [← HOUT.out.2.2, HE.out]; rfl), HB.out⟩
    ·subst hv2
     clear hown
     obtain ⟨A, hA⟩ : ∃ A : ByteArray, A = ⟨acc.toArray⟩ := ⟨_, rfl⟩
     rw [← hA] at hcv
     have HA := hid hA
     clear hA
     go_wp2
     go_ret3
     exact ⟨ret_sii (by rw [HA.out]; exact bytes_ext (by rw [← HOUT.out.1, HE.out]; rfl)) (by rw [← HOUT.out.2.1, HE.out]; rfl) (by rw [← HOUT.out.2.2, HE.out]; rfl), HB.out⟩
   ·have m34 : ((c.toNat : Int) != 34) = true := by rw [isC_bne 34 c 34 rfl, Bool.eq_false_iff.2 (fun e => h34 (isC_iff.1 e))]; rfl
    have m34' : ((c.toNat : Int) == 34) = false := by rw [isC_beq 34 c 34 rfl]; exact Bool.eq_false_iff.2 (fun e => h34 (isC_iff.1 e))
    obtain ⟨vm, hvm⟩ : ∃ vm, den (s.data.toList.drop k) = vm := ⟨_, rfl⟩
    obtain ⟨v, m⟩ := vm
    have hml := den_len (s.data.toList.drop k)
    rw [hvm, List.length_drop, HLEN.out] at hml
    have hml' : m ≤ s.size - k := hml
    clear hml
    have hC := (fun w0 => denoted_q (s.extract k s.size) _ v m w0 (by rw [rest_size s k (by omega)]; unfold maxLen; omega) (rest_data s k) (by rw [List.length_drop, HLEN.out]; omega) hvm)
    rw [hn] at hC hml'
    have HC := hid hC
    clear hC
    by_cases hm0 : m = 0
    ·subst hm0
     have HE := hid (HR.out.symm.trans (atD_bad (acc := acc) HKL.out (by rw [HG.out]; exact h34) (by rw [hvm])))
     clear hvm h34
     go_wp2_with (go_at_call 137; refine (HC.out _).mono ?_; rintro e w' ⟨rfl, z, rfl⟩)
     go_ret3
     exact ⟨ret_sii (bytes_ext (by rw [← HOUT.out.1, HE.out]; rfl)) (by rw [← HOUT.out.2.1, HE.out]; rfl) (by rw [← HOUT.out.2.2, HE.out]; rfl), Below.dr HB.out HB.out.size _⟩
    ·have HN := hid ((atD_next (acc := acc) HKL.out (by rw [HG.out]; exact h34) hvm hm0).symm.trans HR.out)
     have mz : ((m : Int) == 0) = false := beq_eq_false_iff_ne.2 (by omega)
     have mz' : ¬ (m : Int) = 0 := by omega
     clear hvm h34
     obtain ⟨YS, hYS⟩ : ∃ YS, YS = acc.map encB := ⟨_, rfl⟩
     rw [← hYS] at hown
     have HYS := hid hYS
     clear hYS
     obtain ⟨al, hal⟩ : ∃ al, acc.length = al := ⟨_, rfl⟩
     have hal2 : al ≤ n := by omega
     rw [hal] at hown
     have HAL := hid hal
     have HAK : Hid (al ≤ k) := hid (by omega)
     clear hal hak
     have kmw : IntKind.i64.wrap ((k : Int) + (m : Int)) = (k : Int) + (m : Int) := IntWalk.i64_in _ (by omega)
     have HKM := hid kmw
     go_wp2_with (first
      | (go_at_call 137; refine (HC.out _).mono ?_; rintro e w' ⟨rfl, z, rfl⟩)
      | (at_builtin; refine wpList_append_own _ rfl _ _ 40 rfl w.heap.size 5 i0 _ 1 1 Tryz.underlying40 hi hz0 hz1 hz2 rfl (by decide) _ _ _ rfl ((owns_drewN hown z).alloc _) ⟨wr.heap.size, 0, none⟩ 1 1 [.int .u8 (v.toNat : Int)] rfl rfl ?c1 ?c2 ?c3 ?c4 ?c5 ?_))
     case c1 => exact cells_new (wr.drewN z) _ _
     case c2 => exact one_one _
     case c3 => unfold maxLen; omega
     case c4 => omega
     case c5 => have := HB.out.size; simp; omega
     ·intro v' w2 hown' hgrow hnil
      have HW2 := hid hown'
      have HG2 := hid hgrow
      have HOy := hid hown
      clear hown' hgrow hown hnil
      go_wp2
      go_roundw
      case measure => have := HKM.out; simp [intOf]; omega
      case rel =>
       refine ⟨k + m, acc ++ [v], by omega, by rw [List.length_append, HAL.out]; show al + 1 ≤ _; have := HAK.out; omega, by go_num, ?_, ?_, HN⟩
       ·rw [map_snoc, List.length_append, HAL.out, ← HYS.out]; exact HW2.out
       ·refine ((Below.dr HB.out HB.out.size z).alloc (by show _ ≤ wr.heap.size; exact HB.out.size) _).grown HG2.out (by have := HB.out.size; simp; omega) ?_
        intro q hq
        exact (HOy.out.lt q hq).1
  ·obtain rfl : k = n := by omega
   have hkn : ((k : Int) == (s.size : Int)) = true := by rw [hn]; exact beq_self_eq_true _
   have HE := hid (HR.out.symm.trans (atD_out (acc := acc) (by rw [HLEN.out, hn]; exact Nat.le_refl _)))
   go_wp2
   go_ret3
   exact ⟨ret_sii (bytes_ext (by rw [← HOUT.out.1, HE.out]; rfl)) (by rw [← HOUT.out.2.1, HE.out]; rfl) (by rw [← HOUT.out.2.2, HE.out]; rfl), HB.out⟩
end
section
open Go.RowKit Go.Sort
open Q6
theorem printable_q (c : UInt8) (b : Bool) (w : World) (h : good c = b) : Calls Tryz.prog 43 #[.int .u8 c.toNat] w fun e w' => e = .returned (.bool b) ∧ w = w' := by
 subst h; exact printable_any c w
theorem prefix_q (s : ByteArray) (l : List UInt8) (b : Bool) (w : World) (hl : s.data.toList = l) (h : Lib.hasPrefix l [39, 39] = b) :
  Calls Tryz.prog 101 #[.string s, .string ⟨#[39, 39]⟩] w fun e w' => e = .returned (.bool b) ∧ w = w' := by
 subst hl; subst h
 exact (Tryz.strings_HasPrefix s ⟨#[39, 39]⟩ w).mono fun e w' ⟨h1, h2⟩ => ⟨h1, h2.symm⟩
theorem prefix_two {l : List UInt8} {k : Nat} (h : k < l.length) (hc : l.getD k 0 = 39) (h1 : k + 1 < l.length) (hd : l.getD (k + 1) 0 = 39) : Lib.hasPrefix (l.drop k) [39, 39] = true := by
 rw [drop_cons h, drop_cons h1, hc, hd]; simp [Lib.hasPrefix, List.isPrefixOf]
theorem prefix_not {l : List UInt8} {k : Nat} (h : k < l.length) (hd : ¬ (k + 1 < l.length ∧ l.getD (k + 1) 0 = 39)) : Lib.hasPrefix (l.drop k) [39, 39] = false := by
 rw [drop_cons h]
 by_cases h1 : k + 1 < l.length
 ·rw [drop_cons h1]
  have hd' : l.getD (k + 1) 0 ≠ 39 := fun e => hd ⟨h1, e⟩
  have hb : ((39 : UInt8) == l.getD (k + 1) 0) = false := beq_eq_false_iff_ne.2 (Ne.symm hd')
  simp only [Lib.hasPrefix, List.isPrefixOf, hb, Bool.false_and, Bool.and_false]
 ·rw [List.drop_of_length_le (by omega)]
  simp [Lib.hasPrefix, List.isPrefixOf]
theorem scanSingle_any (s : ByteArray) (k0 : Nat) (w : World) (hs : s.size ≤ 1000000) (hk0 : k0 ≤ s.size) (q : ByteArray) (x y : Int)
  (hq : outV (atS s.data.toList [] k0) = q.data.toList) (hx : outN (atS s.data.toList [] k0) = x) (hy : outE (atS s.data.toList [] k0) = y) :
  Calls Tryz.prog 123 #[.string s, .int .i64 (k0 : Int)] w fun e w' => e = .returned (.tuple #[.string q, .int .i64 x, .int .i64 y]) ∧ Below w.heap.size w w' := by
 obtain ⟨i0, hi, hz0, hz1, hz2⟩ := infoB
 have HOUT : Hid (outV (atS s.data.toList [] k0) = q.data.toList ∧ outN (atS s.data.toList [] k0) = x ∧ outE (atS s.data.toList [] k0) = y) := hid ⟨hq, hx, hy⟩
 clear hq hx hy
 obtain ⟨R, hR⟩ : ∃ R, atS s.data.toList [] k0 = R := ⟨_, rfl⟩
 rw [hR] at HOUT
 have HR0 := hid hR
 clear hR
 have HLEN := hid (len_eq s)
 have HO1 := hid (owns_nil w w.heap.size 5)
 obtain ⟨n, hn⟩ : ∃ n, s.size = n := ⟨_, rfl⟩
 have hsn : n ≤ 1000000 := by omega
 go_enter Tryz.func123, Tryz.ntmps123
 go_wp2
 go_loopw [1, 7] (fun si sv wr => ∃ (k : Nat) (acc : List UInt8), k ≤ n ∧ acc.length ≤ k ∧ si = .int .i64 (k : Int) ∧ wr.ownsRow w.heap.size 5 1 sv acc.length (acc.map encB) ∧ Below w.heap.size w wr ∧ Hid (atS s.data.toList acc k = R)) (fun si _ _ => n - (intOf si).toNat)
 case atStart => exact ⟨k0, [], by omega, Nat.zero_le _, rfl, HO1.out, Below.refl _ _, HR0⟩
 case round =>
  clear HO1 HR0
  obtain ⟨k, acc, hk, hak, rfl, hown, hbel, HR⟩ := hrel
  have HO := hid hown
  have HB := hid hbel
  clear hbel
  by_cases hlt : k < n
  ·have hks : k < s.size := by omega
   have hkl : k < s.data.toList.length := by rw [HLEN.out]; exact hks
   have hskz : (k : Int) < (n : Int) := by omega
   have hg : s.data.toList.getD k 0 = s[k]'hks := getd s k hks
   obtain ⟨c, hc⟩ : ∃ c, s[k]'hks = c := ⟨_, rfl⟩
   rw [hc] at hg
   have HG := hid hg
   have HKL := hid hkl
   clear hg hkl
   rcases Bool.eq_false_or_eq_true (good c) with hgd | hgd
   ·have HP := hid hgd
    clear hgd
    by_cases h39 : c = 39
    ·have m39 : ((c.toNat : Int) == 39) = true := by rw [isC_beq 39 c 39 rfl, isC_iff.2 h39]
     by_cases h2 : k + 1 < s.data.toList.length ∧ s.data.toList.getD (k + 1) 0 = 39
     ·have hkn1 : k + 1 < n := by have := h2.1; rw [HLEN.out] at this; omega
      have hks1 : k + 1 < s.size := by omega
      have hk1z : (k : Int) + 1 < (n : Int) := by omega
      have hg1 : s.data.toList.getD (k + 1) 0 = s[k + 1]'hks1 := getd s (k + 1) hks1
      have hc1 : s[k + 1]'hks1 = 39 := by rw [← hg1]; exact h2.2
      have HN := hid ((atS_two (acc := acc) h2.1 (HG.out.trans h39) h2.2).symm.trans HR.out)
      have hC := prefix_q (s.extract k s.size) (s.data.toList.drop k) true
      have hC2 := fun w0 => hC w0 (rest_data s k) (prefix_two HKL.out (HG.out.trans h39) h2.1 h2.2)
      rw [hn] at hC2
      have HC := hid hC2
      clear hC hC2 h2 h39 hg1
      obtain ⟨YS, hYS⟩ : ∃ YS, YS = acc.map encB := ⟨_, rfl⟩
      rw [← hYS] at hown
      have HYS := hid hYS
      clear hYS
      obtain ⟨al, hal⟩ : ∃ al, acc.length = al := ⟨_, rfl⟩
      have hal2 : al ≤ n := by omega
      rw [hal] at hown
      have HAL := hid hal
      have HAK : Hid (al ≤ k) := hid (by omega)
      clear hal hak
      go_wp2_with (first
       | (go_at_call 43; refine (printable_q c true _ HP.out).mono ?_; rintro e w' ⟨rfl, rfl⟩)
       | (go_at_call 101; refine (HC.out _).mono ?_; rintro e w' ⟨rfl, rfl⟩)
       | (at_builtin; refine wpList_append_own _ rfl _ _ 40 rfl w.heap.size 5 i0 _ 1 1 Tryz.underlying40 hi hz0 hz1 hz2 rfl (by decide) _ _ _ rfl (hown.alloc _) ⟨wr.heap.size, 0, none⟩ 1 1 [.int .u8 39] rfl rfl ?c1 ?c2 ?c3 ?c4 ?c5 ?_))
      case c1 => exact cells_new wr _ _
      case c2 => exact one_one _
      case c3 => unfold maxLen; omega
      case c4 => omega
      case c5 => have := HB.out.size; simp; omega
      ·intro v' w2 hown' hgrow hnil
       have HW2 := hid hown'
       have HG2 := hid hgrow
       have HOy := hid hown
       clear hown' hgrow hown hnil
       go_wp2
       go_roundw
       case measure => simp [intOf]; omega
       case rel =>
        refine ⟨k + 2, acc ++ [39], by omega, by rw [List.length_append, HAL.out]; show al + 1 ≤ _; have := HAK.out; omega, by go_num, ?_, ?_, HN⟩
        ·rw [map_snoc, List.length_append, HAL.out, ← HYS.out]; exact HW2.out
        ·refine (HB.out.alloc HB.out.size _).grown HG2.out (by have := HB.out.size; simp; omega) ?_
         intro q hq
         exact (HOy.out.lt q hq).1
     ·have HE := hid (HR.out.symm.trans (atS_end (acc := acc) HKL.out (HG.out.trans h39) h2))
      have hC := prefix_q (s.extract k s.size) (s.data.toList.drop k) false
      have hC2 := fun w0 => hC w0 (rest_data s k) (prefix_not HKL.out h2)
      rw [hn] at hC2
      have HC := hid hC2
      clear hC hC2 h2 h39
      rcases own_cases hown with ⟨hv, hA⟩ | ⟨g, cap, hv2, hcv⟩
      ·subst hv
       have HA := hid hA
       clear hown hA
       have hcv := conv_nil wr
       go_wp2_with (first
        | (go_at_call 43; refine (printable_q c true _ HP.out).mono ?_; rintro e w' ⟨rfl, rfl⟩)
        | (go_at_call 101; refine (HC.out _).mono ?_; rintro e w' ⟨rfl, rfl⟩))
       go_ret3
       exact ⟨ret_sii (bytes_ext (by rw [← HOUT.out.1, HE.out, HA.out]; rfl)) (by rw [← HOUT.out.2.1, HE.out]; rfl) (by rw [← HOUT.out.2.2, HE.out]; rfl), HB.out⟩
      ·subst hv2
       clear hown
       obtain ⟨A, hA⟩ : ∃ A : ByteArray, A = ⟨acc.toArray⟩ := ⟨_, rfl⟩
       rw [← hA] at hcv
       have HA := hid hA
       clear hA
       go_wp2_with (first
        | (go_at_call 43; refine (printable_q c true _ HP.out).mono ?_; rintro e w' ⟨rfl, rfl⟩)
        | (go_at_call 101; refine (HC.out _).mono ?_; rintro e w' ⟨rfl, rfl⟩))
       go_ret3
       exact ⟨ret_sii (by rw [HA.out]; exact bytes_ext (by rw [← HOUT.out.1, HE.out]; rfl)) (by rw [← HOUT.out.2.1, HE.out]; rfl) (by rw [← HOUT.out.2.2, HE.out]; rfl), HB.out⟩
    ·have m39 : ((c.toNat : Int) == 39) = false := by rw [isC_beq 39 c 39 rfl]; exact Bool.eq_false_iff.2 (fun e => h39 (isC_iff.1 e))
     have HN := hid ((atS_next (acc := acc) HKL.out (by rw [HG.out]; exact HP.out) (by rw [HG.out]; exact h39)).symm.trans HR.out)
     rw [HG.out] at HN
     clear h39
     obtain ⟨YS, hYS⟩ : ∃ YS, YS = acc.map encB := ⟨_, rfl⟩
     rw [← hYS] at hown
     have HYS := hid hYS
     clear hYS
     obtain ⟨al, hal⟩ : ∃ al, acc.length = al := ⟨_, rfl⟩
     have hal2 : al ≤ n := by omega
     rw [hal] at hown
     have HAL := hid hal
     have HAK : Hid (al ≤ k) := hid (by omega)
     clear hal hak
     go_wp2_with (first
      | (go_at_call 43; refine (printable_q c true _ HP.out).mono ?_; rintro e w' ⟨rfl, rfl⟩)
      | (at_builtin; refine wpList_append_own _ rfl _ _ 40 rfl w.heap.size 5 i0 _ 1 1 Tryz.underlying40 hi hz0 hz1 hz2 rfl (by decide) _ _ _ rfl (hown.alloc _) ⟨wr.heap.size, 0, none⟩ 1 1 [.int .u8 (c.toNat : Int)] rfl rfl ?c1 ?c2 ?c3 ?c4 ?c5 ?_))
     case c1 => exact cells_new wr _ _
     case c2 => exact one_one _
     case c3 => unfold maxLen; omega
     case c4 => omega
     case c5 => have := HB.out.size; simp; omega
     ·intro v' w2 hown' hgrow hnil
      have HW2 := hid hown'
      have HG2 := hid hgrow
      have HOy := hid hown
      clear hown' hgrow hown hnil
      go_wp2
      go_roundw
      case measure => simp [intOf]; omega
      case rel =>
       refine ⟨k + 1, acc ++ [c], by omega, by rw [List.length_append, HAL.out]; show al + 1 ≤ _; have := HAK.out; omega, by go_num, ?_, ?_, HN⟩
       ·rw [map_snoc, List.length_append, HAL.out, ← HYS.out]; exact HW2.out
       ·refine (HB.out.alloc HB.out.size _).grown HG2.out (by have := HB.out.size; simp; omega) ?_
        intro q hq
        exact (HOy.out.lt q hq).1
   ·have HP := hid hgd
    have HE := hid (HR.out.symm.trans (atS_bad (acc := acc) HKL.out (by rw [HG.out]; exact hgd)))
    clear hgd
    go_wp2_with (go_at_call 43; refine (printable_q c false _ HP.out).mono ?_; rintro e w' ⟨rfl, rfl⟩)
    go_ret3
    exact ⟨ret_sii (bytes_ext (by rw [← HOUT.out.1, HE.out]; rfl)) (by rw [← HOUT.out.2.1, HE.out]; rfl) (by rw [← HOUT.out.2.2, HE.out]; rfl), HB.out⟩
  ·obtain rfl : k = n := by omega
   have HE := hid (HR.out.symm.trans (atS_out (acc := acc) (by rw [HLEN.out, hn]; exact Nat.le_refl _)))
   go_wp2
   go_ret3
   exact ⟨ret_sii (bytes_ext (by rw [← HOUT.out.1, HE.out]; rfl)) (by rw [← HOUT.out.2.1, HE.out]; rfl) (by rw [← HOUT.out.2.2, HE.out]; rfl), HB.out⟩
end
end Go.Proofs.YtmdgpejedbkkdaaGreatDoor
namespace Go.Proofs
open Go.Shelf
def Tryz.lays143_ren : Go.Shelf.Ren := ⟨fun | 143 => 91 | 219 => 120 | 217 => 85 | 225 => 88 | 224 => 87 | 267 => 136 | 266 => 116 | 314 => 146 | n => n, fun | 9 => 9 | 3 => 3 | 4 => 4 | 5 => 5 | 46 => 91 | 146 => 141 | 51 => 140 | n => n, fun | 1 => 0 | n => n⟩
theorem Tryz.lays143 : Go.Proofs.Lays.n143 Tryz.prog Tryz.lays143_ren := {
 mixed := by kernel_rfl
 f143 := Tryz.func91.trans (congrArg some (by kernel_rfl))
 f217 := Tryz.func85.trans (congrArg some (by kernel_rfl))
 f219 := Tryz.func120.trans (congrArg some (by kernel_rfl))
 f224 := Tryz.func87.trans (congrArg some (by kernel_rfl))
 f225 := Tryz.func88.trans (congrArg some (by kernel_rfl))
 f266 := Tryz.func116.trans (congrArg some (by kernel_rfl))
 f267 := Tryz.func136.trans (congrArg some (by kernel_rfl))
 f314 := Tryz.func146.trans (congrArg some (by kernel_rfl))
 t3 := Tryz.underlying3
 a3 := Tryz.isAgg3
 z3 := Tryz.sizeOf3
 v3 := Tryz.zeroValue3
 t4 := Tryz.underlying4
 a4 := Tryz.isAgg4
 z4 := Tryz.sizeOf4
 v4 := Tryz.zeroValue4
 t5 := Tryz.underlying5
 a5 := Tryz.isAgg5
 z5 := Tryz.sizeOf5
 v5 := Tryz.zeroValue5
 t9 := Tryz.underlying9
 a9 := Tryz.isAgg9
 z9 := Tryz.sizeOf9
 v9 := Tryz.zeroValue9
 t46 := Tryz.underlying91
 a46 := Tryz.isAgg91
 z46 := Tryz.sizeOf91
 v46 := Tryz.zeroValue91
 t51 := Tryz.underlying140
 a51 := Tryz.isAgg140
 z51 := Tryz.sizeOf140
 v51 := Tryz.zeroValue140
 t146 := Tryz.underlying141
 a146 := Tryz.isAgg141
 z146 := Tryz.sizeOf141
 v146 := Tryz.zeroValue141
 g1 := by kernel_rfl }
open Go.RowKit Go.Lib in
theorem Tryz.strings_Index (s sub : ByteArray) (m : Int) (w : World) (hs : s.size < 4294967281) (hm : w.cell? ⟨0, 0, none⟩ = some (.int .i64 m)) :
  Calls Tryz.prog 91 #[.string s, .string sub] w fun e w' => e = .returned (.int .i64 (Lib.index s.data.toList sub.data.toList)) ∧ w' = w := Any.strings_Index Tryz.lays143 s sub m w hs hm
def Tryz.lays146_ren : Go.Shelf.Ren := ⟨fun | 146 => 49 | 221 => 66 | 268 => 89 | 138 => 90 | 143 => 91 | 195 => 117 | 197 => 118 | 218 => 119 | 219 => 120 | 260 => 135 | 217 => 85 | 225 => 88 | 224 => 87 | 267 => 136 | 266 => 116 | 314 => 146 | n => n, fun | 9 => 9 | 31 => 22 | 3 => 3 | 4 => 4 | 0 => 0 | 105 => 121 | 21 => 21 | 5 => 5 | 46 => 91 | 119 => 136 | 139 => 139 | 138 => 138 | 146 => 141 | 51 => 140 | n => n, fun | 1 => 0 | 3 => 1 | 4 => 2 | n => n⟩
theorem Tryz.lays146 : Go.Proofs.Lays.n146 Tryz.prog Tryz.lays146_ren := {
 mixed := by kernel_rfl
 f138 := Tryz.func90.trans (congrArg some (by kernel_rfl))
 f143 := Tryz.func91.trans (congrArg some (by kernel_rfl))
 f146 := Tryz.func49.trans (congrArg some (by kernel_rfl))
 f195 := Tryz.func117.trans (congrArg some (by kernel_rfl))
 f197 := Tryz.func118.trans (congrArg some (by kernel_rfl))
 f217 := Tryz.func85.trans (congrArg some (by kernel_rfl))
 f218 := Tryz.func119.trans (congrArg some (by kernel_rfl))
 f219 := Tryz.func120.trans (congrArg some (by kernel_rfl))
 f221 := Tryz.func66.trans (congrArg some (by kernel_rfl))
 f224 := Tryz.func87.trans (congrArg some (by kernel_rfl))
 f225 := Tryz.func88.trans (congrArg some (by kernel_rfl))
 f260 := Tryz.func135.trans (congrArg some (by kernel_rfl))
 f266 := Tryz.func116.trans (congrArg some (by kernel_rfl))
 f267 := Tryz.func136.trans (congrArg some (by kernel_rfl))
 f268 := Tryz.func89.trans (congrArg some (by kernel_rfl))
 f314 := Tryz.func146.trans (congrArg some (by kernel_rfl))
 t0 := Tryz.underlying0
 a0 := Tryz.isAgg0
 z0 := Tryz.sizeOf0
 v0 := Tryz.zeroValue0
 t3 := Tryz.underlying3
 a3 := Tryz.isAgg3
 z3 := Tryz.sizeOf3
 v3 := Tryz.zeroValue3
 t4 := Tryz.underlying4
 a4 := Tryz.isAgg4
 z4 := Tryz.sizeOf4
 v4 := Tryz.zeroValue4
 t5 := Tryz.underlying5
 a5 := Tryz.isAgg5
 z5 := Tryz.sizeOf5
 v5 := Tryz.zeroValue5
 t9 := Tryz.underlying9
 a9 := Tryz.isAgg9
 z9 := Tryz.sizeOf9
 v9 := Tryz.zeroValue9
 t21 := Tryz.underlying21
 a21 := Tryz.isAgg21
 z21 := Tryz.sizeOf21
 v21 := Tryz.zeroValue21
 t31 := Tryz.underlying22
 a31 := Tryz.isAgg22
 z31 := Tryz.sizeOf22
 v31 := Tryz.zeroValue22
 t46 := Tryz.underlying91
 a46 := Tryz.isAgg91
 z46 := Tryz.sizeOf91
 v46 := Tryz.zeroValue91
 t51 := Tryz.underlying140
 a51 := Tryz.isAgg140
 z51 := Tryz.sizeOf140
 v51 := Tryz.zeroValue140
 t105 := Tryz.underlying121
 a105 := Tryz.isAgg121
 z105 := Tryz.sizeOf121
 v105 := Tryz.zeroValue121
 t119 := Tryz.underlying136
 a119 := Tryz.isAgg136
 z119 := Tryz.sizeOf136
 t138 := Tryz.underlying138
 a138 := Tryz.isAgg138
 z138 := Tryz.sizeOf138
 v138 := Tryz.zeroValue138
 t139 := Tryz.underlying139
 a139 := Tryz.isAgg139
 z139 := Tryz.sizeOf139
 v139 := Tryz.zeroValue139
 t146 := Tryz.underlying141
 a146 := Tryz.isAgg141
 z146 := Tryz.sizeOf141
 v146 := Tryz.zeroValue141
 g1 := by kernel_rfl
 g3 := by kernel_rfl
 g4 := by kernel_rfl }
open Go.RowKit Go.Lib in
theorem Tryz.strings_Split (s sep : ByteArray) (m : Int) (w : World) (hs : s.size < 4294967281) (hm : w.cell? ⟨0, 0, none⟩ = some (.int .i64 m)) (h1 : 1 ≤ sep.size) :
  Calls Tryz.prog 49 #[.string s, .string sep] w fun e w' =>
   e = .returned (.slice (some ⟨w.heap.size, 0, none⟩) (Lib.countB s sep + 1) (Lib.countB s sep + 1)) ∧ w' = w.alloc (.cells ((Lib.splitB sep 0 (Lib.countB s sep) s).map Value.string).toArray 9) := Any.strings_Split Tryz.lays146 (by kernel_rfl) s sep m w hs hm h1
def Tryz.lays155_ren : Go.Shelf.Ren := ⟨fun | 155 => 126 | 154 => 139 | 138 => 90 | 165 => 148 | 143 => 91 | 166 => 18 | 197 => 118 | 169 => 20 | 195 => 117 | 218 => 119 | 240 => 39 | 241 => 161 | 219 => 120 | 260 => 135 | 276 => 60 | 277 => 171 | 217 => 85 | 225 => 88 | 224 => 87 | 267 => 136 | 266 => 116 | 314 => 146 | n => n, fun | 9 => 9 | 3 => 3 | 4 => 4 | 72 => 42 | 0 => 0 | 76 => 48 | 105 => 121 | 21 => 21 | 5 => 5 | 70 => 39 | 20 => 20 | 37 => 40 | 75 => 47 | 127 => 66 | 164 => 82 | 46 => 91 | 119 => 136 | 139 => 139 | 138 => 138 | 146 => 141 | 51 => 140 | 80 => 51 | n => n, fun | 1 => 0 | 3 => 1 | 4 => 2 | n => n⟩
theorem Tryz.lays155 : Go.Proofs.Lays.n155 Tryz.prog Tryz.lays155_ren := {
 mixed := by kernel_rfl
 f138 := Tryz.func90.trans (congrArg some (by kernel_rfl))
 f143 := Tryz.func91.trans (congrArg some (by kernel_rfl))
 f154 := Tryz.func139.trans (congrArg some (by kernel_rfl))
 f155 := Tryz.func126.trans (congrArg some (by kernel_rfl))
 f165 := Tryz.func148.trans (congrArg some (by kernel_rfl))
 f166 := Tryz.func18.trans (congrArg some (by kernel_rfl))
 f169 := Tryz.func20.trans (congrArg some (by kernel_rfl))
 f195 := Tryz.func117.trans (congrArg some (by kernel_rfl))
 f197 := Tryz.func118.trans (congrArg some (by kernel_rfl))
 f217 := Tryz.func85.trans (congrArg some (by kernel_rfl))
 f218 := Tryz.func119.trans (congrArg some (by kernel_rfl))
 f219 := Tryz.func120.trans (congrArg some (by kernel_rfl))
 f224 := Tryz.func87.trans (congrArg some (by kernel_rfl))
 f225 := Tryz.func88.trans (congrArg some (by kernel_rfl))
 f240 := Tryz.func39.trans (congrArg some (by kernel_rfl))
 f241 := Tryz.func161.trans (congrArg some (by kernel_rfl))
 f260 := Tryz.func135.trans (congrArg some (by kernel_rfl))
 f266 := Tryz.func116.trans (congrArg some (by kernel_rfl))
 f267 := Tryz.func136.trans (congrArg some (by kernel_rfl))
 f276 := Tryz.func60.trans (congrArg some (by kernel_rfl))
 f277 := Tryz.func171.trans (congrArg some (by kernel_rfl))
 f314 := Tryz.func146.trans (congrArg some (by kernel_rfl))
 t0 := Tryz.underlying0
 a0 := Tryz.isAgg0
 z0 := Tryz.sizeOf0
 v0 := Tryz.zeroValue0
 t3 := Tryz.underlying3
 a3 := Tryz.isAgg3
 z3 := Tryz.sizeOf3
 v3 := Tryz.zeroValue3
 t4 := Tryz.underlying4
 a4 := Tryz.isAgg4
 z4 := Tryz.sizeOf4
 v4 := Tryz.zeroValue4
 t5 := Tryz.underlying5
 a5 := Tryz.isAgg5
 z5 := Tryz.sizeOf5
 v5 := Tryz.zeroValue5
 t9 := Tryz.underlying9
 a9 := Tryz.isAgg9
 z9 := Tryz.sizeOf9
 v9 := Tryz.zeroValue9
 t20 := Tryz.underlying20
 a20 := Tryz.isAgg20
 z20 := Tryz.sizeOf20
 v20 := Tryz.zeroValue20
 t21 := Tryz.underlying21
 a21 := Tryz.isAgg21
 z21 := Tryz.sizeOf21
 v21 := Tryz.zeroValue21
 t37 := Tryz.underlying40
 a37 := Tryz.isAgg40
 z37 := Tryz.sizeOf40
 v37 := Tryz.zeroValue40
 t46 := Tryz.underlying91
 a46 := Tryz.isAgg91
 z46 := Tryz.sizeOf91
 v46 := Tryz.zeroValue91
 t51 := Tryz.underlying140
 a51 := Tryz.isAgg140
 z51 := Tryz.sizeOf140
 v51 := Tryz.zeroValue140
 t70 := Tryz.underlying39
 a70 := Tryz.isAgg39
 z70 := Tryz.sizeOf39
 v70 := Tryz.zeroValue39
 t72 := Tryz.underlying42
 a72 := Tryz.isAgg42
 z72 := Tryz.sizeOf42
 v72 := Tryz.zeroValue42
 t75 := Tryz.underlying47
 a75 := Tryz.isAgg47
 z75 := Tryz.sizeOf47
 v75 := Tryz.zeroValue47
 t76 := Tryz.underlying48
 a76 := Tryz.isAgg48
 z76 := Tryz.sizeOf48
 v76 := Tryz.zeroValue48
 t105 := Tryz.underlying121
 a105 := Tryz.isAgg121
 z105 := Tryz.sizeOf121
 v105 := Tryz.zeroValue121
 t119 := Tryz.underlying136
 a119 := Tryz.isAgg136
 z119 := Tryz.sizeOf136
 t127 := Tryz.underlying66
 a127 := Tryz.isAgg66
 z127 := Tryz.sizeOf66
 v127 := Tryz.zeroValue66
 t138 := Tryz.underlying138
 a138 := Tryz.isAgg138
 z138 := Tryz.sizeOf138
 v138 := Tryz.zeroValue138
 t139 := Tryz.underlying139
 a139 := Tryz.isAgg139
 z139 := Tryz.sizeOf139
 v139 := Tryz.zeroValue139
 t146 := Tryz.underlying141
 a146 := Tryz.isAgg141
 z146 := Tryz.sizeOf141
 v146 := Tryz.zeroValue141
 t164 := Tryz.underlying82
 a164 := Tryz.isAgg82
 z164 := Tryz.sizeOf82
 v164 := Tryz.zeroValue82
 g1 := by kernel_rfl
 g3 := by kernel_rfl
 g4 := by kernel_rfl }
theorem Tryz.Builder_Extra_155 : Builder.Extra Tryz.prog Tryz.lays155_ren := {
 sizeBuilder := by kernel_rfl
 liesBuilder := by kernel_rfl
 t5 := Tryz.underlying5
 a5 := Tryz.isAgg5
 z5 := Tryz.sizeOf5
 v5 := Tryz.zeroValue5
 infoByte := by kernel_rfl
 cellsByte := by kernel_rfl
 sizeByte := by kernel_rfl
 neB5 := by decide }
open Go.RowKit Go.Lib in
theorem Tryz.strings_ReplaceAll (s old new : ByteArray) (m : Int) (w : World) (hs : s.size < 4294967281) (hm : w.cell? ⟨0, 0, none⟩ = some (.int .i64 m)) (h1 : 1 ≤ old.size) (hlen : s.size + Lib.countB s old * new.size ≤ 140737488355328) :
  Calls Tryz.prog 126 #[.string s, .string old, .string new] w fun e w' =>
   e = .returned (.string ⟨(Lib.replaceAll s.data.toList old.data.toList new.data.toList).toArray⟩) ∧ Below w.heap.size w w' := Any.strings_ReplaceAll Tryz.lays155 Tryz.Builder_Extra_155 s old new m w hs hm h1 hlen
end Go.Proofs
namespace Go.Proofs.YtmdgpejedbkkdaaGreatDoor
section
open Go.RowKit Go.Sort
open Q6
def SomeMax (w : World) : Prop := ∃ m, w.cell? ⟨0, 0, none⟩ = some (.int .i64 m)
theorem SomeMax.keep {w w' : World} (h : SomeMax w) (hb : Below w.heap.size w w') : SomeMax w' := by
 obtain ⟨m, hm⟩ := h
 exact ⟨m, (hb.cell (World.block_lt_of_cell? _ _ hm)).trans hm⟩
theorem someMax_of_shape {w : World} (h : w.ShapedOpen Tryz.prog) : SomeMax w :=
 cell_of_shapedOpen_int (zero := #[.int .i64 0]) (t := 3) h (of_decide_eq_true (by kernel_rfl)) (by kernel_rfl) rfl (by kernel_rfl) (by kernel_rfl) Tryz.underlying3
def sglB (l : List UInt8) : Bool := everyB goodF l
def sglV (l : List UInt8) : List UInt8 := if sglB l then sglL l else []
theorem sqL_len (l : List UInt8) : (sqL l).length ≤ 2 * l.length := by
 induction l with
 | nil => exact Nat.le_refl _
 | cons c l ih =>
  rw [sqL_cons, List.length_append, List.length_cons]
  have : (sq c).length ≤ 2 := by
   unfold sq; split
   ·exact Nat.le_refl _
   ·show 1 ≤ 2; decide
  omega
theorem replace_any (s q : ByteArray) (w : World) (hw : SomeMax w) (hs : s.size ≤ 1000000) (h : sqL s.data.toList = q.data.toList) :
  Calls Tryz.prog 126 #[.string s, .string ⟨#[39]⟩, .string ⟨#[39, 39]⟩] w fun e w' => e = .returned (.string q) ∧ Below w.heap.size w w' := by
 obtain ⟨m, hm⟩ := hw
 have hc := Lib.countB_le ⟨#[39]⟩ (by decide) s.size s (Nat.le_refl _)
 refine (Tryz.strings_ReplaceAll s ⟨#[39]⟩ ⟨#[39, 39]⟩ m w (by omega) hm (by decide) (by show _ + _ * 2 ≤ _; omega)).mono ?_
 rintro e w' ⟨rfl, hb⟩
 exact ⟨by show Ending.returned (.string ⟨(Lib.replaceAll s.data.toList [39] [39, 39]).toArray⟩) = _; rw [replace_sq, h], hb⟩
theorem ret_sb {a b : ByteArray} {c d : Bool} (h : a = b) (g : c = d) : Ending.returned (.tuple #[.string a, .bool c]) = .returned (.tuple #[.string b, .bool d]) := by rw [h, g]
theorem Single_any (s : ByteArray) (w : World) (hw : SomeMax w) (hs : s.size ≤ 200000) (q : ByteArray) (b : Bool) (hq : sglV s.data.toList = q.data.toList) (hb : sglB s.data.toList = b) :
  Calls Tryz.prog 100 #[.string s] w fun e w' => e = .returned (.tuple #[.string q, .bool b]) ∧ Below w.heap.size w w' := by
 have hs' : s.size ≤ maxLen := by unfold maxLen; omega
 have HW := hid hw
 have HP := hid hb
 cases b with
 | false =>
  have HQ : Hid (q.data.toList = []) := hid (by rw [← hq]; unfold sglV; rw [hb]; rfl)
  clear hq hb hw
  go_enter Tryz.func100, Tryz.ntmps100
  go_wp2_with (go_at_call 40; refine (every_q _ _ goodF false _ hs' tells_good HP.out).mono ?_; rintro e w' ⟨rfl, rfl⟩)
  go_ret2
  exact ⟨ret_sb (bytes_ext HQ.out.symm) rfl, Below.refl _ _⟩
 | true =>
  have HQ : Hid (q.data.toList = sglL s.data.toList) := hid (by rw [← hq]; unfold sglV; rw [hb]; rfl)
  obtain ⟨r, hr⟩ : ∃ r : ByteArray, sqL s.data.toList = r.data.toList := ⟨⟨(sqL s.data.toList).toArray⟩, by simp⟩
  have HR := hid hr
  have hrs : r.size ≤ 400000 := by
   have h1 : (sqL s.data.toList).length = r.size := by rw [hr]; rfl
   have h2 := sqL_len s.data.toList
   rw [len_eq] at h2
   omega
  clear hq hb hw hr
  go_enter Tryz.func100, Tryz.ntmps100
  go_wp2_with (first | (go_at_call 40; refine (every_q _ _ goodF true _ hs' tells_good HP.out).mono ?_; rintro e w' ⟨rfl, rfl⟩) | (go_at_call 126; refine (replace_any s r _ HW.out (by omega) HR.out).mono ?_; rintro e w' ⟨rfl, hb⟩))
  go_ret2
  exact ⟨ret_sb (bytes_ext (by rw [data_app, data_app, HQ.out]; unfold sglL; rw [HR.out]; rfl)) rfl, hb⟩
end
end Go.Proofs.YtmdgpejedbkkdaaGreatDoor
