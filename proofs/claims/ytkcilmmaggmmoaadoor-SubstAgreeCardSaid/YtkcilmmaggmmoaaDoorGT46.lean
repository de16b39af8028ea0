/- TmpTel, SubEnd -/
import Derived.Deep.Cut
import Derived.Deep.RegionHeld3
import Derived.Test.YtkcilmmaggmmoaaDoorGT18
import Derived.Test.YtkcilmmaggmmoaaDoorGT19
import Derived.Test.YtkcilmmaggmmoaaDoorGT32
import Derived.Test.YtkcilmmaggmmoaaDoorGT35
import Derived.Test.YtkcilmmaggmmoaaDoorGT41
import Derived.Test.YtkcilmmaggmmoaaDoorGT43
import Derived.Test.YtkcilmmaggmmoaaDoorGT44
import Derived.Test.YtkcilmmaggmmoaaDoorGT45
set_option linter.unusedVariables false
set_option linter.unusedSimpArgs false
set_option maxRecDepth 100000
set_option maxHeartbeats 16000000
open Go.Lib (hid)
namespace Go.Proofs.YtkcilmmaggmmoaaDoor
namespace Nw
end Nw
namespace S14
end S14
namespace T13
end T13
namespace V12
end V12
end Go.Proofs.YtkcilmmaggmmoaaDoor
namespace Go.Proofs.YtkcilmmaggmmoaaDoor
section
open Go.RowKit Go.Sort
open Nw T13 Go.ChangeShapes Go.WideShapes
theorem Grw.nil_below {t : TypeId} {w w1 : World} {base n : Nat} {v1 : Value} {xs : List Value} (h : Grw t w w1 base (.slice none 0 0) v1 n xs) : Below w.heap.size w w1 :=
 ⟨h.2.1.os, h.2.1.tape, h.2.1.output, h.2.1.size, fun k hk => h.2.1.block k hk fun e => by cases e⟩
theorem PwB.of {w w1 : World} (h : Pw13 w) (hb : Below w.heap.size w w1) : PwB w.heap.size w1 := by
 refine ⟨h.keep hb, ?_, ?_⟩
 ·obtain ⟨m, hm⟩ := h.2
  exact World.block_lt_of_cell? _ _ hm
 ·exact World.block_lt_of_cell? _ _ (h.1 0 (by decide))
theorem PtW.base {w w1 : World} {v : Value} {ps : List Pt} (h : PtW w v ps) (hb : Below w.heap.size w w1) : PtL (· < w.heap.size) w1 v ps := PtL.keep h fun b hlt => ⟨hlt, hb.block b hlt⟩
theorem Text13_any (v : Value) (ps : List Pt) (q : ByteArray) (w : World) (hw : Pw13 w) (h : PtW w v ps) (hwf : WfL 1 ps) (hc : cntL ps ≤ 100000) (hq : q.size ≤ 100000) (hql : q.data.toList = txtL ps) :
  Calls Tryd.prog 15 #[v] w fun e w' => e = .returned (.string q) ∧ Below w.heap.size w w' := by
 have hdp := depL_le ps 1 hwf
 have HE := hid (hasEnd_any 1000000 ps (by omega) (Nat.le_refl _) 65536 (by omega) (Nat.le_refl _) v w h)
 have hlen : (txtL ps).length = q.size := by rw [← hql, len13]
 have HA : Hid (∀ W, Below w.heap.size w W → Calls Tryd.prog 26 #[.slice none 0 0, v] W fun e w' => ∃ v', e = .returned v' ∧ Grw 5 W w' w.heap.size (.slice none 0 0) v' q.size (q.data.toList.map encB)) := hid (fun W hW => by
  have := appendParts_any 1000000 ps (by omega) 1 hwf [] 0 w.heap.size (.slice none 0 0) v W (PwB.of hw hW) (owns_nil _ _ _) hW.size (h.base hW) (by omega)
  rw [Nat.zero_add, List.nil_append, hlen, ← hql] at this
  exact this)
 have HC : Hid (∀ (W W' : World) (v' : Value), Grw 5 W W' w.heap.size (.slice none 0 0) v' q.size (q.data.toList.map encB) → (v' = .slice none 0 0 ∧ q = ⟨#[]⟩) ∨ ∃ g cap, v' = .slice (some ⟨g, 0, none⟩) q.size cap ∧ (convert 62 9 (.slice (some ⟨g, 0, none⟩) q.size cap)).run Tryd.prog W' = .ok (.string q) W') := hid (fun W W' v' hG => by
  rcases own_cases hG.1 with ⟨h1, h2⟩ | ⟨g, cap, h1, h2⟩
  ·exact .inl ⟨h1, bytes_of (l := #[]) h2⟩
  ·refine .inr ⟨g, cap, h1, ?_⟩
   rw [show (⟨q.data.toList.toArray⟩ : ByteArray) = q from bytes_ext (by simp)] at h2
   exact h2)
 clear h hwf hc hq hql hdp hlen hw
 go_enter Tryd.func15, Tryd.ntmps15
 go_upto_region 3 with (go_at_call 23; refine HE.out.mono ?_; rintro e W1 ⟨rfl, hb1⟩; have HB1 := hid hb1; clear hb1)
 go_wp2_with fail
 refine (HA.out _ HB1.out).mono ?_
 rintro e W2 ⟨v', rfl, hG⟩
 have HB2 := hid (HB1.out.trans (hG.nil_below.mono HB1.out.size))
 rcases HC.out _ _ _ hG with ⟨rfl, rfl⟩ | ⟨g, cap, rfl, hcv⟩
 ·have hcv := conv_nil W2
  clear hG
  go_wp2
  go_ret
  exact ⟨rfl, HB2.out⟩
 ·clear hG
  go_wp2
  go_ret
  exact ⟨rfl, HB2.out⟩
theorem Names13_any (v : Value) (ps : List Pt) (w : World) (h : PtW w v ps) (hwf : WfL 1 ps) (hc : cntL ps ≤ 100000) :
  Calls Tryd.prog 13 #[v] w fun e w' => ∃ v', e = .returned v' ∧ Rd w' v' (sortL (namL ps)) ∧ Below w.heap.size w w' := by
 have hdp := depL_le ps 1 hwf
 have hnl := namL_len ps
 have HE := hid (hasEnd_any 1000000 ps (by omega) (Nat.le_refl _) 65536 (by omega) (Nat.le_refl _) v w h)
 have HA : Hid (∀ W, Below w.heap.size w W → Calls Tryd.prog 25 #[.slice none 0 0, v] W fun e w' => ∃ v', e = .returned v' ∧ Rd w' v' (namL ps) ∧ Below W.heap.size W w') := hid (fun W hW => by
  have := appendNames_any 1000000 ps (by omega) 1 hwf [] 0 w.heap.size (.slice none 0 0) v W (owns_nil _ _ _) hW.size (h.base hW) (by omega)
  rw [Nat.zero_add, List.nil_append] at this
  refine this.mono ?_
  rintro e w' ⟨v', rfl, hG⟩
  exact ⟨v', rfl, rd_of_owns hG.1, hG.nil_below⟩)
 have HS := hid (fun (W : World) (v' : Value) (hr : Rd W v' (namL ps)) => Sorted_own v' (namL ps) W hr (by omega))
 obtain ⟨L, hL⟩ : ∃ L, sortL (namL ps) = L := ⟨_, rfl⟩
 rw [hL] at HS ⊢
 clear h hwf hc hdp hnl hL
 go_enter Tryd.func13, Tryd.ntmps13
 go_wp2_with first
  | (go_at_call 23; refine HE.out.mono ?_; rintro e W1 ⟨rfl, hb1⟩; have HB1 := hid hb1; clear hb1)
  | (go_at_call 25; refine (HA.out _ HB1.out).mono ?_; rintro e W2 ⟨v2, rfl, hr2, hb2⟩; have HR2 := hid hr2; have HB2 := hid (HB1.out.trans (hb2.mono HB1.out.size)); clear hr2 hb2)
  | (go_at_call 24; refine (HS.out _ _ HR2.out).mono ?_; rintro e W3 ⟨v3, rfl, ho3, hb3⟩; have HR3 := hid (rd_of_owns ho3); have HB3 := hid (HB2.out.trans (hb3.mono HB2.out.size)); clear ho3 hb3)
 go_ret
 exact ⟨_, rfl, HR3.out, HB3.out⟩
end
section
open Go.RowKit
open Nw V12 T13 S14
theorem pw13_keep (w w' : World) (h : Pw13 w) (hb : Below w.heap.size w w') : Pw13 w' := h.keep hb
theorem get14 (v : Value) (x : List KV) (nm : L8) (W : World) (h : Pw13 W) (hv : VR W v x) (hx : x.length ≤ 1000000) :
  Calls Tryd.prog 53 #[v, .string (ba nm)] W fun e w' => e = .returned (.tuple #[.string (ba ((lastV x nm).getD [])), .bool (lastV x nm).isSome]) ∧ Below W.heap.size W w' := by
 have := Get_any v x hx (ba nm) W hv
 rw [ba_data] at this
 exact this
theorem text14 (s : ByteArray) (v : Value) (x : List KV) (W : World) (h : Pw13 W) (hs : s.size ≤ 100000) (hv : VR W v x) (hx : EnvS x) :
  Calls Tryd.prog 8 #[.string s, v] W fun e w' => e = .returned (SayO (sayX (lastV x) s.data.toList)) ∧ Below W.heap.size W w' :=
 Text14_any Pw13 pw13_keep get14 (fun s W h hs => Parse13_any s W h.1 hs) s v x W h hs hv hx
theorem expand14 (p v : Value) (ps : List Pt) (x : List KV) (W : World) (h : Pw13 W) (hp : PtW W p ps) (hwf : WfL 1 ps) (hT : (txtL ps).length ≤ 100000) (hv : VR W v x) (hx : EnvS x) :
  Calls Tryd.prog 11 #[p, v] W fun e w' => e = .returned (SayO (sayL (lastV x) [] ps)) ∧ Below W.heap.size W w' :=
 Expand_any (fun V => Pw13 V ∧ VR V v x) (fun V V' h hb => ⟨h.1.keep hb, h.2.below hb⟩) (lastV x) v (fun n z h => Nat.le_trans (hx.val h) (by decide)) (fun nm V h => get14 v x nm V h.1 h.2 (by have := hx.2.1; omega)) ps p W ⟨h, hv⟩ hp hwf (by omega)
theorem SubstAgree_row (s t : ByteArray) (l : List KV) (v : Value) (m : List KV) (u : Value) (w : World) (hw : Pw13 w) (hs : s.size ≤ maxLen) (ht : t.size ≤ maxLen) (hl : VR w v l) (okl : KVok l) (hm : VR w u m) (okm : KVok m) : Calls Tryd.prog 4 #[.string s, .string t, v, u] w fun e w' => e = .returned (.bool true) ∧ Below w.heap.size w w' :=
 SubstAgree_walk Pw13 pw13_keep text14 (fun s W h hs => Parse13_any s W h.1 hs) (fun v ps q W h1 h2 h3 h4 h5 h6 => Text13_any v ps q W h1 h2 h3 h4 h5 h6) (fun v ps W _ h2 h3 h4 => Names13_any v ps W h2 h3 h4) expand14 s t l m v u w hw hs ht hl okl hm okm
end
end Go.Proofs.YtkcilmmaggmmoaaDoor
