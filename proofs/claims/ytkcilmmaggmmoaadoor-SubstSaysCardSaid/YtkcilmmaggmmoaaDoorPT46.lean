/- TmpTel, SubEnd -/
import Derived.Below
import Derived.BigQuiet
import Derived.ChangeAlike
import Derived.Deep.CutRange
import Derived.Deep.LoopGhost
import Derived.Deep.QuietTactic
import Derived.Deep.RegionHeld3
import Derived.Deep.RegionLaw
import Derived.IntWalk
import Derived.Laws.AppendOwnNone
import Derived.Laws.OwnMore
import Derived.Lib.BufferMore
import Derived.Lib.OwnBridge
import Derived.Lib.SliceRun
import Derived.Maps.AppendAt
import Derived.ProofKit
import Derived.RegionTactic
import Derived.SliceStrings
import Derived.StillTailTactics
import Derived.Test.YtkcilmmaggmmoaaDoorPT12
import Derived.Test.YtkcilmmaggmmoaaDoorPT19
import Derived.Test.YtkcilmmaggmmoaaDoorPT2
import Derived.Test.YtkcilmmaggmmoaaDoorPT24
import Derived.Test.YtkcilmmaggmmoaaDoorPT27
import Derived.Test.YtkcilmmaggmmoaaDoorPT36
import Derived.Test.YtkcilmmaggmmoaaDoorPT37
import Derived.Test.YtkcilmmaggmmoaaDoorPT39
import Derived.Test.YtkcilmmaggmmoaaDoorPT4
import Derived.Test.YtkcilmmaggmmoaaDoorPT41
import Derived.Test.YtkcilmmaggmmoaaDoorPT44
import Derived.Test.YtkcilmmaggmmoaaDoorPT45
import Derived.Test.YtkcilmmaggmmoaaDoorPT9
import Derived.WalkKit
set_option linter.unusedVariables false
set_option linter.unusedSimpArgs false
set_option maxRecDepth 100000
set_option maxHeartbeats 16000000
open Go.Lib (hid)
namespace Go.Proofs.YtkcilmmaggmmoaaDoor
namespace Nw
end Nw
namespace S14
end S14
namespace T13
end T13
namespace V12
end V12
end Go.Proofs.YtkcilmmaggmmoaaDoor
namespace Go.Proofs.YtkcilmmaggmmoaaDoor
section
open Go.RowKit Go.Sort
open Nw T13 Go.ChangeShapes Go.WideShapes
theorem Grw.nil_below {t : TypeId} {w w1 : World} {base n : Nat} {v1 : Value} {xs : List Value} (h : Grw t w w1 base (.slice none 0 0) v1 n xs) : Below w.heap.size w w1 :=
 ⟨h.2.1.os, h.2.1.tape, h.2.1.output, h.2.1.size, fun k hk => h.2.1.block k hk fun e => by cases e⟩
theorem PwB.of {w w1 : World} (h : Pw13 w) (hb : Below w.heap.size w w1) : PwB w.heap.size w1 := by
 refine ⟨h.keep hb, ?_, ?_⟩
 ·obtain ⟨m, hm⟩ := h.2
  exact World.block_lt_of_cell? _ _ hm
 ·exact World.block_lt_of_cell? _ _ (h.1 0 (by decide))
theorem PtW.base {w w1 : World} {v : Value} {ps : List Pt} (h : PtW w v ps) (hb : Below w.heap.size w w1) : PtL (· < w.heap.size) w1 v ps := PtL.keep h fun b hlt => ⟨hlt, hb.block b hlt⟩
theorem Text13_any (v : Value) (ps : List Pt) (q : ByteArray) (w : World) (hw : Pw13 w) (h : PtW w v ps) (hwf : WfL 1 ps) (hc : cntL ps ≤ 100000) (hq : q.size ≤ 100000) (hql : q.data.toList = txtL ps) :
  Calls Tryd.prog 15 #[v] w fun e w' => e = .returned (.string q) ∧ Below w.heap.size w w' := by
 have hdp := depL_le ps 1 hwf
 have HE := hid (hasEnd_any 1000000 ps (by omega) (Nat.le_refl _) 65536 (by omega) (Nat.le_refl _) v w h)
 have hlen : (txtL ps).length = q.size := by rw [← hql, len13]
 have HA : Hid (∀ W, Below w.heap.size w W → Calls Tryd.prog 26 #[.slice none 0 0, v] W fun e w' => ∃ v', e = .returned v' ∧ Grw 5 W w' w.heap.size (.slice none 0 0) v' q.size (q.data.toList.map encB)) := hid (fun W hW => by
  have := appendParts_any 1000000 ps (by omega) 1 hwf [] 0 w.heap.size (.slice none 0 0) v W (PwB.of hw hW) (owns_nil _ _ _) hW.size (h.base hW) (by omega)
  rw [Nat.zero_add, List.nil_append, hlen, ← hql] at this
  exact this)
 have HC : Hid (∀ (W W' : World) (v' : Value), Grw 5 W W' w.heap.size (.slice none 0 0) v' q.size (q.data.toList.map encB) → (v' = .slice none 0 0 ∧ q = ⟨#[]⟩) ∨ ∃ g cap, v' = .slice (some ⟨g, 0, none⟩) q.size cap ∧ (convert 62 9 (.slice (some ⟨g, 0, none⟩) q.size cap)).run Tryd.prog W' = .ok (.string q) W') := hid (fun W W' v' hG => by
  rcases own_cases hG.1 with ⟨h1, h2⟩ | ⟨g, cap, h1, h2⟩
  ·exact .inl ⟨h1, bytes_of (l := #[]) h2⟩
  ·refine .inr ⟨g, cap, h1, ?_⟩
   rw [show (⟨q.data.toList.toArray⟩ : ByteArray) = q from bytes_ext (by simp)] at h2
   exact h2)
 clear h hwf hc hq hql hdp hlen hw
 go_enter Tryd.func15, Tryd.ntmps15
 go_upto_region 3 with (go_at_call 23; refine HE.out.mono ?_; rintro e W1 ⟨rfl, hb1⟩; have HB1 := hid hb1; clear hb1)
 go_wp2_with fail
 refine (HA.out _ HB1.out).mono ?_
 rintro e W2 ⟨v', rfl, hG⟩
 have HB2 := hid (HB1.out.trans (hG.nil_below.mono HB1.out.size))
 rcases HC.out _ _ _ hG with ⟨rfl, rfl⟩ | ⟨g, cap, rfl, hcv⟩
 ·have hcv := conv_nil W2
  clear hG
  go_wp2
  go_ret
  exact ⟨rfl, HB2.out⟩
 ·clear hG
  go_wp2
  go_ret
  exact ⟨rfl, HB2.out⟩
end
section
open Go.RowKit
open Nw V12 T13 S14
theorem pw13_keep (w w' : World) (h : Pw13 w) (hb : Below w.heap.size w w') : Pw13 w' := h.keep hb
theorem get14 (v : Value) (x : List KV) (nm : L8) (W : World) (h : Pw13 W) (hv : VR W v x) (hx : x.length ≤ 1000000) :
  Calls Tryd.prog 53 #[v, .string (ba nm)] W fun e w' => e = .returned (.tuple #[.string (ba ((lastV x nm).getD [])), .bool (lastV x nm).isSome]) ∧ Below W.heap.size W w' := by
 have := Get_any v x hx (ba nm) W hv
 rw [ba_data] at this
 exact this
theorem text14 (s : ByteArray) (v : Value) (x : List KV) (W : World) (h : Pw13 W) (hs : s.size ≤ 100000) (hv : VR W v x) (hx : EnvS x) :
  Calls Tryd.prog 8 #[.string s, v] W fun e w' => e = .returned (SayO (sayX (lastV x) s.data.toList)) ∧ Below W.heap.size W w' :=
 Text14_any Pw13 pw13_keep get14 (fun s W h hs => Parse13_any s W h.1 hs) s v x W h hs hv hx
theorem expand14 (p v : Value) (ps : List Pt) (x : List KV) (W : World) (h : Pw13 W) (hp : PtW W p ps) (hwf : WfL 1 ps) (hT : (txtL ps).length ≤ 100000) (hv : VR W v x) (hx : EnvS x) :
  Calls Tryd.prog 11 #[p, v] W fun e w' => e = .returned (SayO (sayL (lastV x) [] ps)) ∧ Below W.heap.size W w' :=
 Expand_any (fun V => Pw13 V ∧ VR V v x) (fun V V' h hb => ⟨h.1.keep hb, h.2.below hb⟩) (lastV x) v (fun n z h => Nat.le_trans (hx.val h) (by decide)) (fun nm V h => get14 v x nm V h.1 h.2 (by have := hx.2.1; omega)) ps p W ⟨h, hv⟩ hp hwf (by omega)
theorem needs14 (p v : Value) (ps : List Pt) (x : List KV) (W : World) (h : Pw13 W) (hp : PtW W p ps) (hwf : WfL 1 ps) (hT : (txtL ps).length ≤ 100000) (hv : VR W v x) (hx : EnvS x) :
  Calls Tryd.prog 12 #[p, v] W fun e w' => e = .returned (NeedO (sayL (lastV x) [] ps)) ∧ Below W.heap.size W w' := by
 have hc := cntL_le ps 1 hwf
 have HV : ∀ V, Below W.heap.size W V → Calls Tryd.prog 21 #[p, v, .int .i64 0] V (VOut 100000 W.heap.size (sayL (lastV x) [] ps) V) := fun V hV =>
  valueOf_any (fun V => Pw13 V ∧ VR V v x) (fun V V' h hb => ⟨h.1.keep hb, h.2.below hb⟩) (lastV x) v (fun n z h => Nat.le_trans (hx.val h) (by decide)) (fun nm V h => get14 v x nm V h.1 h.2 (by have := hx.2.1; omega)) 100000 W.heap.size 1000001 (by decide) ps 0 (by omega) (Nat.le_refl _) hT hwf p V ⟨h.keep hV, hv.below hV⟩ hV.size (PtL.keep hp fun b hb => ⟨hb, hV.block b hb⟩)
 cases hR : sayL (lastV x) [] ps with
 | ok z =>
  rw [hR] at HV
  refine (Needs_ok p v W (ba z) fun V hV => (HV V hV).mono ?_).mono ?_
  ·rintro e w' ⟨hb, rfl⟩
   exact ⟨rfl, hb⟩
  ·rintro e w' ⟨rfl, hb⟩
   exact ⟨rfl, hb⟩
 | err er ky y =>
  rw [hR] at HV
  refine (Needs_fail p v W er (ba ky) (ba y) fun V hV => (HV V hV).mono ?_).mono ?_
  ·rintro e w' ⟨hb, k, t, op, A, n, c, s, rfl, rfl, hps, ht, hws, hyl⟩
   refine ⟨⟨t, op, A, n, c, rfl, fun W2 h2 => ?_⟩, hb⟩
   have hb2 := (hV.trans (hb.mono hV.size)).trans (h2.mono (Nat.le_trans hV.size hb.size))
   have hsz := cntL_le s 1 hws
   rw [ht] at hsz
   exact Text13_any (.slice A n c) s (ba y) W2 (h.keep hb2) (PtL.keep hps fun b hlt => ⟨by have h9 : b < W.heap.size := hlt; have := hb2.size; show b < W2.heap.size; omega, h2.block b (by have h9 : b < W.heap.size := hlt; have := hV.size; have := hb.size; omega)⟩) hws (by omega) (by show (y.toArray).size ≤ 100000; rw [List.size_toArray]; exact hyl) (by rw [ba_data]; exact ht.symm)
  ·rintro e w' ⟨rfl, hb⟩
   exact ⟨rfl, hb⟩
theorem SubstSays_row (s : ByteArray) (l : List KV) (v : Value) (w : World) (hw : Pw13 w) (hs : s.size ≤ maxLen) (hl : VR w v l) (okl : KVok l) : Calls Tryd.prog 3 #[.string s, v] w fun e w' => e = .returned (.bool true) ∧ Below w.heap.size w w' :=
 SubstSays_walk Pw13 pw13_keep text14 (fun s W h hs => Parse13_any s W h.1 hs)
  (fun s v x W hs hv hx => RText14 (fun s W hs => RParse13_any s W hs) x (fun n z h => Nat.le_trans (hx.val h) (by decide)) s hs v W hv) expand14 needs14 s l v w hw hs hl okl
end
end Go.Proofs.YtkcilmmaggmmoaaDoor
