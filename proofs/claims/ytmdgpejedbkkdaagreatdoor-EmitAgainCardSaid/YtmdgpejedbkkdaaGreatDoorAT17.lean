/- EmiSca, EmiEx, EmiLns, EmiLeaf, EmiOne -/
import Derived.Lib.OthersKept
import Derived.Maps.AppendAt
import Derived.Test.YtmdgpejedbkkdaaGreatDoorAT11
import Derived.Test.YtmdgpejedbkkdaaGreatDoorAT14
import Derived.Test.YtmdgpejedbkkdaaGreatDoorAT15
import Derived.Test.YtmdgpejedbkkdaaGreatDoorAT16
import Derived.Test.YtmdgpejedbkkdaaGreatDoorAT8
import Derived.Test.YtmdgpejedbkkdaaGreatDoorAT9
set_option linter.unusedVariables false
set_option linter.unusedSimpArgs false
set_option maxRecDepth 100000
set_option maxHeartbeats 16000000
open Go.Lib (hid)
namespace Go.Proofs.YtmdgpejedbkkdaaGreatDoor
section
open Go.RowKit
open Nw N8 Q6 F9 B10 E11
theorem isq_contains (c : UInt8) : ([34, 39] : List UInt8).contains c = isQ c := by
 unfold isQ
 by_cases h1 : c = 34
 ·subst h1; rfl
 ·by_cases h2 : c = 39
  ·subst h2; rfl
  ·rw [decide_eq_false h1, decide_eq_false h2]; simp [h1, h2]
theorem any_noq : ∀ l : L8, decide (0 ≤ Lib.indexAny l [34, 39]) = !noq l
 | [] => rfl
 | b :: l => by
  have ih := any_noq l
  have hge := Lib.indexAny_ge [34, 39] l
  unfold Lib.indexAny noq
  rw [isq_contains, List.all_cons]
  cases isQ b
  ·rw [if_neg (by decide)]
   show _ = !(true && noq l)
   rw [Bool.true_and, ← ih]
   by_cases h : Lib.indexAny l [34, 39] = -1
   ·rw [if_pos (by rw [h]; rfl), h]
   ·rw [if_neg (by simpa using h), decide_eq_decide]; omega
  ·rfl
def AnyQ (s : ByteArray) (w : World) (e : Ending) (w' : World) : Prop := ∃ i : Int, e = .returned (.int .i64 i) ∧ decide (0 ≤ i) = !noq s.data.toList ∧ Below w.heap.size w w'
theorem below_iter (w : World) (s : ByteArray) (k : Nat) : Below w.heap.size w (w.iter s k) := (Below.refl _ _).alloc (Nat.le_refl _) _
theorem noq_all {s : ByteArray} {k d : Nat} (h : noq (s.data.toList.take k) = true) (hd : ∀ j, j < d → k + j < s.size ∧ 128 ≤ (s.get! (k + j)).toNat) : noq (s.data.toList.take (k + d)) = true := by
 induction d with
 | zero => exact h
 | succ d ih =>
  obtain ⟨h1, h2⟩ := hd d (by omega)
  have h3 := ih fun j hj => hd j (by omega)
  have hl : k + d < s.data.toList.length := by rw [len_eq]; exact h1
  rw [show k + (d + 1) = (k + d) + 1 by omega, noq_step hl, h3, Bool.true_and]
  have hg : s.data.toList.getD (k + d) 0 = s.get! (k + d) := by rw [List.getD_eq_getElem?_getD, get_data s _ h1]; rfl
  rw [hg]
  unfold isQ
  rw [decide_eq_false (by intro e; rw [e] at h2; exact absurd h2 (by decide)), decide_eq_false (by intro e; rw [e] at h2; exact absurd h2 (by decide))]
  rfl
theorem noq_hit {s : ByteArray} {k : Nat} (hk : k < s.data.toList.length) (h : isQ (s.data.toList.getD k 0) = true) : noq s.data.toList = false := by
 rw [Bool.eq_false_iff]
 intro e
 have := List.all_eq_true.1 e _ (List.getElem_mem hk)
 rw [show s.data.toList[k] = s.data.toList.getD k 0 by rw [List.getD_eq_getElem?_getD, List.getElem?_eq_getElem hk]; rfl, h] at this
 cases this
theorem idx_hit (x : UInt8) : decide ((0 : Int) ≤ Lib.indexByte [34, 39] x) = isQ x := by
 have h := Lib.contains_iff_indexByte [34, 39] x
 rw [isq_contains] at h
 exact h.symm
theorem IndexAny_short (Q : ByteArray) (hQ : Q.data.toList = [34, 39]) (s : ByteArray) (w : World) (h8 : s.size ≤ 8) :
  Calls Tryz.prog 44 #[.string s, .string Q] w (AnyQ s w) := by
 have hz : Q.size = 2 := by rw [← len_eq, hQ]; rfl
 have q0 : (Q[0]'(by omega)).toNat = 34 := by
  have := Lib.data_getElem? Q 0 (by omega); rw [hQ] at this; injection this with this; rw [← this]; rfl
 have q1 : (Q[1]'(by omega)).toNat = 39 := by
  have := Lib.data_getElem? Q 1 (by omega); rw [hQ] at this; injection this with this; rw [← this]; rfl
 have HA := hid (fun r h0 h1 W => Tryz.strings_IndexRune_ascii Q r W h0 h1)
 rw [hQ] at HA
 have HR := hid (fun r h1 h2 W => IndexRune_q Q hz q0 q1 r h1 h2 W)
 have HS := hid (fun n W => Tryz.strings_shouldUseASCIISet n W)
 have hemp : Q.toList.isEmpty = false := by rw [Lib.toList_data, hQ]; rfl
 have hn1 : ((2 : Int) == 1) = false := by decide
 have h8z : decide ((8 : Int) < (s.size : Int)) = false := decide_eq_false (by omega)
 obtain ⟨n, hn⟩ : ∃ n, s.size = n := ⟨_, rfl⟩
 have HN := hid hn
 have hdl : s.data.toList.length = n := by rw [len_eq, hn]
 have HDL := hid hdl
 clear q0 q1 hdl hQ
 rw [hn] at h8z
 go_enter Tryz.func44, Tryz.ntmps44
 go_wp2_with (go_at_call 63; refine (HS.out _ _).mono ?_; rintro e w1 ⟨rfl, rfl⟩)
 have hst : (w1.iter s 0).heap[w1.heap.size]? = some (.stringIter s 0) := World.iter_heap w1 s 0
 have hbl : Below w1.heap.size w1 (w1.iter s 0) := below_iter _ _ _
 generalize w1.iter s 0 = W0 at hst hbl ⊢
 have HST := hid hst
 have HBL := hid hbl
 clear hst hbl
 go_loopw [9, 10] (fun _ _ wr => ∃ k : Nat, k ≤ n ∧ wr.heap[w1.heap.size]? = some (.stringIter s k) ∧ Hid (Below w1.heap.size w1 wr) ∧ Hid (noq (s.data.toList.take k) = true)) (fun _ _ wr => n - wr.iterPos w1.heap.size)
 case atStart => exact ⟨0, Nat.zero_le _, HST.out, HBL, hid rfl⟩
 case round =>
  obtain ⟨k, hk, hit, HW, HK⟩ := hrel
  have HIP : Hid (wr.iterPos w1.heap.size = k) := hid (by unfold World.iterPos; rw [hit])
  have HIT := hid hit
  have HLT := hid (lt_of_heap hit)
  by_cases hlt : k < n
  ·have hks : k < s.size := by rw [HN.out]; exact hlt
   have HKL : Hid (k < s.data.toList.length) := hid (by rw [HDL.out]; exact hlt)
   have HG : Hid (s.data.toList.getD k 0 = s[k]'hks) := hid (by rw [List.getD_eq_getElem?_getD, Lib.data_getElem? s k hks]; rfl)
   by_cases hx : (s[k]'hks).toNat < 128
   ·have hnx := fun ty => Lib.run_next_ascii_at (P := Tryz.prog) wr w1.heap.size s k ty hit hks hx
    have hit2 := hid (Lib.iterAt_heap wr w1.heap.size s k (k + 1) hit)
    have HW2 := hid (Lib.below_iterAt HW.out (Nat.le_refl w1.heap.size) s (k + 1))
    obtain ⟨x, hxx⟩ : ∃ x, s[k]'hks = x := ⟨_, rfl⟩
    rw [hxx] at hnx hx HG
    obtain ⟨j, hj⟩ : ∃ j, Lib.indexByte [34, 39] x = j := ⟨_, rfl⟩
    have hjq := idx_hit x
    rw [hj] at hjq
    have HA1 : Hid (∀ W, Calls Tryz.prog 62 #[.string Q, .int .i32 ((x.toNat : Nat) : Int)] W fun e w' => e = .returned (.int .i64 j) ∧ w' = W) := hid (fun W => by
     have h := HA.out ((x.toNat : Nat) : Int) (by omega) (by omega) W
     rw [show (((x.toNat : Nat) : Int)).toNat.toUInt8 = x by simp, hj] at h
     exact h)
    generalize wr.iterAt w1.heap.size s (k + 1) = W2 at hnx hit2 HW2
    clear hxx hks hx hit
    cases hq : isQ x
    ·rw [hq] at hjq
     have HNX : Hid (noq (s.data.toList.take (k + 1)) = true) := hid (by rw [noq_step HKL.out, HK.out, HG.out, hq]; rfl)
     clear hq
     go_wp2_with (go_at_call 62; refine (HA1.out _).mono ?_; rintro e w2 ⟨rfl, rfl⟩)
     go_roundw
     case rel => exact ⟨k + 1, by omega, hit2.out, HW2, HNX⟩
     case measure => rw [HIP.out, show World.iterPos w2 w1.heap.size = k + 1 by unfold World.iterPos; rw [hit2.out]]; omega
    ·rw [hq] at hjq
     have HNX : Hid (noq s.data.toList = false) := hid (noq_hit HKL.out (by rw [HG.out]; exact hq))
     clear hq
     go_wp2_with (go_at_call 62; refine (HA1.out _).mono ?_; rintro e w2 ⟨rfl, rfl⟩)
     go_ret
     exact ⟨_, rfl, by rw [HNX.out]; exact decide_eq_true (by omega), HW2.out⟩
   ·have hnx := fun ty => Lib.run_next_any_at (P := Tryz.prog) wr w1.heap.size s k ty hit hks
    have h3 := decode_high s k hks (by omega)
    have h4 := decode_le s k
    have HSK := hid (noq_all HK.out (decode_skip s k hks (by omega)))
    have hle : k + (Utf8.decode s k).2 ≤ n := by
     have := (decode_skip s k hks (by omega) ((Utf8.decode s k).2 - 1) (by omega)).1
     rw [HN.out] at this
     omega
    obtain ⟨r, hr⟩ : ∃ r, (Utf8.decode s k).1 = r := ⟨_, rfl⟩
    obtain ⟨d, hd⟩ : ∃ d, (Utf8.decode s k).2 = d := ⟨_, rfl⟩
    rw [hr, hd] at h3
    rw [hr] at h4
    rw [hd] at hle HSK
    simp only [hr, hd] at hnx
    have hit2 := hid (Lib.iterAt_heap wr w1.heap.size s k (k + d) hit)
    have HW2 := hid (Lib.below_iterAt HW.out (Nat.le_refl w1.heap.size) s (k + d))
    have HR1 := hid (fun W => HR.out r h3.1 h4 W)
    have hd1 : 1 ≤ d := h3.2
    generalize wr.iterAt w1.heap.size s (k + d) = W2 at hnx hit2 HW2
    clear hr hd h3 h4 hks hx HG hit
    have hlow : decide ((0 : Int) ≤ -1) = false := by decide
    go_wp2_with (go_at_call 62; refine (HR1.out _).mono ?_; rintro e w2 ⟨rfl, hb2⟩)
    have hit3 : w2.heap[w1.heap.size]? = some (.stringIter s (k + d)) := (hb2.block w1.heap.size (lt_of_heap hit2.out)).trans hit2.out
    have HW3 := hid (HW2.out.trans (hb2.mono (Nat.le_of_lt (lt_of_heap hit2.out))))
    clear hb2
    go_roundw
    case rel => exact ⟨k + d, hle, hit3, HW3, HSK⟩
    case measure => rw [HIP.out, show World.iterPos w2 w1.heap.size = k + d by unfold World.iterPos; rw [hit3]]; omega
  ·obtain rfl : k = n := by omega
   have hnx := fun ty => Lib.run_next_end_at (P := Tryz.prog) wr w1.heap.size s k ty hit (by rw [HN.out]; omega)
   have HNX : Hid (noq s.data.toList = true) := hid (by
    have := HK.out
    rwa [List.take_of_length_le (by rw [HDL.out]; exact Nat.le_refl _)] at this)
   clear hit
   go_wp2
   go_ret
   exact ⟨_, rfl, by rw [HNX.out]; decide, HW.out⟩
theorem IndexAny_q (Q : ByteArray) (hQ : Q.data.toList = [34, 39]) (s : ByteArray) (w : World) (hs : s.size ≤ 1000000) :
  Calls Tryz.prog 44 #[.string s, .string Q] w (AnyQ s w) := by
 by_cases h8 : s.size ≤ 8
 ·exact IndexAny_short Q hQ s w h8
 ·have hz : Q.size = 2 := by rw [← len_eq, hQ]; rfl
  refine (Tryz.strings_IndexAny_long (zero_of_info (n := 256) (by kernel_rfl)).1 s Q w (by omega) (by omega) (by omega) (by omega) (fun j b h => ?_)).mono ?_
  ·rw [hQ] at h
   have hb : b ∈ ([34, 39] : List UInt8) := List.mem_of_getElem? h
   exact (by decide : ∀ b ∈ ([34, 39] : List UInt8), b.toNat < 128) b hb
  ·rintro e w' ⟨rfl, rfl⟩
   refine ⟨_, rfl, by rw [hQ]; exact any_noq _, ((Below.refl _ _).alloc (Nat.le_refl _) _).alloc (by simp) _⟩
theorem ContainsAny_q (Q : ByteArray) (hQ : Q.data.toList = [34, 39]) (s : ByteArray) (w : World) (hs : s.size ≤ 1000000) (b : Bool) (hb : noq s.data.toList = !b) :
  Calls Tryz.prog 25 #[.string s, .string Q] w fun e w' => e = .returned (.bool b) ∧ Below w.heap.size w w' := by
 have H := hid (IndexAny_q Q hQ s w hs)
 have HB := hid hb
 clear hb hs
 go_enter Tryz.func25, Tryz.ntmps25
 go_wp2_with (go_at_call 44; refine H.out.mono ?_; rintro e w1 ⟨i, rfl, hi, hb1⟩)
 go_ret
 exact ⟨ret_b (by rw [HB.out, Bool.not_not]), hb1⟩
theorem Scalar_any (s : ByteArray) (w : World) (hs : s.size ≤ 1000000) (q : ByteArray) (hq : scw s.data.toList = q.data.toList) :
  Calls Tryz.prog 11 #[.string s] w fun e w' => e = .returned (.string q) ∧ Below w.heap.size w w' := by
 have HP := hid (fun b h W => Plain_q s b W (Nat.le_trans hs (by decide)) h)
 have HC := hid (fun b h W => ContainsAny_q ⟨#[34, 39]⟩ rfl s W hs b h)
 have HD := hid (fun D h W => Double_any s W hs D h)
 unfold scw at hq
 cases hp : plainB s.data.toList
 ·rw [hp] at hq
  have HP1 := hid (fun W => HP.out false hp W)
  have HD1 := hid (fun W => HD.out q hq W)
  clear hp hq HP HD HC hs
  go_enter Tryz.func11, Tryz.ntmps11
  go_wp2_with fail
  refine (HP1.out _).mono ?_
  rintro e w1 ⟨rfl, rfl⟩
  go_wp2_with fail
  refine (HD1.out _).mono ?_
  rintro e w2 ⟨rfl, hb⟩
  go_wp2
  go_ret
  exact ⟨rfl, hb⟩
 ·cases hn : noq s.data.toList
  ·rw [hp, hn] at hq
   have HP1 := hid (fun W => HP.out true hp W)
   have HC1 := hid (fun W => HC.out true hn W)
   have HD1 := hid (fun W => HD.out q hq W)
   clear hp hq HP HD HC hs hn
   go_enter Tryz.func11, Tryz.ntmps11
   go_wp2_with fail
   refine (HP1.out _).mono ?_
   rintro e w1 ⟨rfl, rfl⟩
   go_wp2_with fail
   refine (HC1.out _).mono ?_
   rintro e w2 ⟨rfl, hb2⟩
   go_wp2_with fail
   refine (HD1.out _).mono ?_
   rintro e w3 ⟨rfl, hb⟩
   go_wp2
   go_ret
   exact ⟨rfl, belowNext hb2 hb⟩
  ·rw [hp, hn] at hq
   have HQ : Hid (s.data.toList = q.data.toList) := hid hq
   have HP1 := hid (fun W => HP.out true hp W)
   have HC1 := hid (fun W => HC.out false hn W)
   clear hp hq HP HD HC hs hn
   go_enter Tryz.func11, Tryz.ntmps11
   go_wp2_with fail
   refine (HP1.out _).mono ?_
   rintro e w1 ⟨rfl, rfl⟩
   go_wp2_with fail
   refine (HC1.out _).mono ?_
   rintro e w2 ⟨rfl, hb2⟩
   go_wp2
   go_ret
   exact ⟨str_of HQ.out, hb2⟩
end
end Go.Proofs.YtmdgpejedbkkdaaGreatDoor
namespace Go.Proofs.YtmdgpejedbkkdaaGreatDoor
namespace E11
open Nw N8 Q6 F9 B10
def exI : Nd := .mk 2 [] [] [txt [120], .mk 3 [] [[98], [99]] [txt [121], nul]]
def exE : Nd := .mk 3 [] [[97]] [exI]
def exV : L8 := [91, 120, 44, 32, 123, 98, 58, 32, 121, 44, 32, 99, 58, 32, 110, 117, 108, 108, 125, 93]
def exS : L8 := [97, 58, 32, 91, 120, 44, 32, 123, 98, 58, 32, 121, 44, 32, 99, 58, 32, 110, 117, 108, 108, 125, 93]
def exW : L8 := [97, 58, 10, 32, 32, 45, 32, 120, 10, 32, 32, 45, 32, 98, 58, 32, 121, 10, 32, 32, 32, 32, 99, 58, 32, 110, 117, 108, 108, 10]
theorem ex_flow : parP exV = some exI := by kernel_rfl
theorem ok_exI : okT 2000 exI = true := ok_iff.2 ⟨(par_got ex_flow).1, by decide, by decide⟩
theorem ex_val (no : Nat) : valL exV no = .ok exI 1 := by
 unfold valL
 rw [ex_flow, ← (par_yes ok_exI).1, ← (par_yes ok_exI).2]; rfl
theorem ex_ent : entP exS = some (some ([97], exV)) := by kernel_rfl
theorem ex_file : fileL exS = ([⟨1, 0, exS⟩], 0, 0) := by kernel_rfl
theorem ex_blk11 : blkB [⟨1, 0, exS⟩] = .ok exE 1 := by
 rw [blk_map (x := ⟨1, 0, exS⟩) rfl ex_ent, map_kid (x := ⟨1, 0, exS⟩) rfl ex_ent List.not_mem_nil, kid_val (by decide), ex_val]
 show (mapB 0 [[97]] [exI] []).more 1 = _
 rw [map_nil]; rfl
theorem ok_exE : okT 2000 exE = true := ok_iff.2 ⟨(blk_fine ex_blk11).1, by decide, by decide⟩
theorem ex_par11 : parB exS = (exE, 0, 0) := by
 rw [par_cons ex_file, ex_blk11, parK_end (L := [⟨1, 0, exS⟩]) (k := 1) (Nat.le_refl 1), if_pos ok_exE]
theorem ex_wr : wrB exE = exW := by kernel_rfl
def nlN (l : L8) : Nat := (l.filter fun c => decide (c = 10)).length
theorem ex_nl : nlN exW = 4 := by decide
theorem wr_same {d e : Nd} (hd : N8.Fine d) (he : N8.Fine e) : decide (wrB d = wrB e) = sameT d e := by
 cases hs : sameT d e with
 | true => rw [sameT_iff.1 hs]; exact decide_eq_true rfl
 | false => exact decide_eq_false fun h => by rw [wr_inj hd he h, sameT_iff.2 rfl] at hs; cases hs
theorem nl_app (a b : L8) : nlN (a ++ b) = nlN a + nlN b := by unfold nlN; rw [List.filter_append, List.length_append]
end E11
end Go.Proofs.YtmdgpejedbkkdaaGreatDoor
namespace Go.Proofs.YtmdgpejedbkkdaaGreatDoor
namespace E11
open Nw N8 Q6 F9 B10
def dsh : List L8 → List L8
 | [] => []
 | x :: l => ([45, 32] ++ x) :: l.map fun y => [32, 32] ++ y
mutual
def lnT : Nd → List L8
 | .mk k t ks ds => if shrt (.mk k t ks ds) then [scal (.mk k t ks ds)] else if k = 2 then lnS ds else lnM ks ds
def lnS : List Nd → List L8
 | [] => []
 | d :: ds => dsh (lnT d) ++ lnS ds
def lnM : List L8 → List Nd → List L8
 | k :: ks, d :: ds => (if shrt d then [keyw k ++ [58] ++ [32] ++ scal d] else (keyw k ++ [58]) :: (lnT d).map fun y => [32, 32] ++ y) ++ lnM ks ds
 | _, _ => []
end
def flL (d : Nd) : List L8 := if d.kind = 0 then [] else if d.kind = 1 ∧ marker d.text = true then [dblL d.text] else lnT d
def withLf (l : List L8) : L8 := (l.map fun x => x ++ [10]).flatten
theorem withLf_snoc (l : List L8) (x : L8) : withLf (l ++ [x]) = withLf l ++ (x ++ [10]) := by unfold withLf; simp
theorem withLf_cons (x : L8) (l : List L8) : withLf (x :: l) = (x ++ [10]) ++ withLf l := by unfold withLf; simp
theorem withLf_pre {pre xs : List L8} (h : pre <+: xs) : (withLf pre).length ≤ (withLf xs).length := by
 obtain ⟨r, rfl⟩ := h
 unfold withLf
 rw [List.map_append, List.flatten_append, List.length_append]
 omega
theorem dsh_snoc (pre : List L8) (x : L8) : dsh (pre ++ [x]) = dsh pre ++ [(if pre = [] then [45, 32] else [32, 32]) ++ x] := by
 cases pre with
 | nil => rfl
 | cons y l => rw [if_neg (by simp)]; simp [dsh]
theorem dsh_pre {pre xs : List L8} (h : pre <+: xs) : dsh pre <+: dsh xs := by
 obtain ⟨r, rfl⟩ := h
 cases pre with
 | nil => exact List.nil_prefix
 | cons y l => exact ⟨r.map fun y => [32, 32] ++ y, by simp [dsh]⟩
theorem lnS_take : ∀ (ds : List Nd) (j : Nat) (hj : j < ds.length), lnS (ds.take (j + 1)) = lnS (ds.take j) ++ dsh (lnT (ds[j]'hj)) ∧ lnS (ds.take (j + 1)) <+: lnS ds
 | d :: ds, 0, _ => by
  show lnS [d] = lnS [] ++ dsh (lnT d) ∧ lnS [d] <+: lnS (d :: ds)
  rw [lnS, lnS, lnS, List.append_nil, List.nil_append]
  exact ⟨rfl, ⟨_, rfl⟩⟩
 | d :: ds, j + 1, hj => by
  obtain ⟨h1, h2⟩ := lnS_take ds j (Nat.lt_of_succ_lt_succ hj)
  show lnS (d :: ds.take (j + 1)) = lnS (d :: ds.take j) ++ dsh (lnT (ds[j]'_)) ∧ lnS (d :: ds.take (j + 1)) <+: lnS (d :: ds)
  rw [lnS, lnS, lnS, h1, List.append_assoc]
  refine ⟨rfl, ?_⟩
  rw [← h1]
  exact (List.prefix_append_right_inj _).2 h2
def entL (h : L8) (d : Nd) : List L8 := if shrt d then [h ++ [32] ++ scal d] else h :: (lnT d).map fun y => [32, 32] ++ y
theorem lnM_take : ∀ (ks : List L8) (ds : List Nd) (j : Nat) (hk : j < ks.length) (hj : j < ds.length), lnM (ks.take (j + 1)) (ds.take (j + 1)) = lnM (ks.take j) (ds.take j) ++ entL (keyw (ks[j]'hk) ++ [58]) (ds[j]'hj) ∧ lnM (ks.take (j + 1)) (ds.take (j + 1)) <+: lnM ks ds
 | k :: ks, d :: ds, 0, _, _ => by
  show lnM [k] [d] = lnM [] [] ++ entL (keyw k ++ [58]) d ∧ lnM [k] [d] <+: lnM (k :: ks) (d :: ds)
  rw [lnM, lnM, show lnM [] [] = [] by rw [lnM]; intros; contradiction, List.append_nil, List.nil_append]
  exact ⟨rfl, ⟨_, rfl⟩⟩
 | k :: ks, d :: ds, j + 1, hk, hj => by
  obtain ⟨h1, h2⟩ := lnM_take ks ds j (Nat.lt_of_succ_lt_succ hk) (Nat.lt_of_succ_lt_succ hj)
  show lnM (k :: ks.take (j + 1)) (d :: ds.take (j + 1)) = lnM (k :: ks.take j) (d :: ds.take j) ++ entL (keyw (ks[j]'_) ++ [58]) (ds[j]'_) ∧ lnM (k :: ks.take (j + 1)) (d :: ds.take (j + 1)) <+: lnM (k :: ks) (d :: ds)
  rw [lnM, lnM, lnM, h1]
  refine ⟨(List.append_assoc _ _ _).symm, ?_⟩
  rw [← h1]
  exact (List.prefix_append_right_inj _).2 h2
def indL (q : Nat × L8) : L8 := spn q.1 ++ q.2
theorem lnT_short {d : Nd} (h : shrt d = true) : lnT d = [scal d] := by
 obtain ⟨k, t, ks, ds⟩ := d
 rw [lnT, if_pos h]
theorem lnT_long {k : Int} {t : L8} {ks : List L8} {ds : List Nd} (h : shrt (.mk k t ks ds) = false) : lnT (.mk k t ks ds) = if k = 2 then lnS ds else lnM ks ds := by
 rw [lnT, if_neg (by rw [h]; decide)]
theorem spn_add (p q : Nat) : spn (p + q) = spn p ++ spn q := by unfold spn; exact List.replicate_append_replicate.symm
theorem two_spn (p : Nat) (y : L8) : spn (p + 2) ++ y = spn p ++ ([32, 32] ++ y) := by rw [spn_add, List.append_assoc]; rfl
mutual
theorem rws_lines : ∀ (d : Nd) (p : Nat), Fine d → shrt d = false → (rws d p).map indL = (lnT d).map fun y => spn p ++ y
 | .mk k t ks ds, p, hf, hs => by
  obtain ⟨_, _, _, _, hfd⟩ := fine_in hf
  rw [lnT_long hs, rws]
  by_cases h2 : k = 2
  ·rw [if_pos h2, if_pos h2]; exact rwS_lines ds p hfd
  ·rw [if_neg h2, if_neg h2]; exact rwM_lines ks ds p hfd
theorem rwS_lines : ∀ (ds : List Nd) (p : Nat), (∀ d ∈ ds, Fine d) → (rwS ds p).map indL = (lnS ds).map fun y => spn p ++ y
 | [], p, _ => by rw [rwS, lnS]; rfl
 | d :: ds, p, hf => by
  have hd : Fine d := hf d List.mem_cons_self
  rw [rwS, lnS, List.map_append, List.map_append, rwS_lines ds p (fun e he => hf e (List.mem_cons_of_mem _ he))]
  congr 1
  by_cases hs : shrt d = true
  ·rw [if_pos hs, lnT_short hs]; rfl
  ·have hs0 : shrt d = false := Bool.eq_false_iff.2 hs
   have ih := rws_lines d (p + 2) hd hs0
   obtain ⟨u, tl, he, _, _⟩ := rws_first (cntT d) d (p + 2) (Nat.le_refl _) hd hs0
   rw [if_neg hs, he]
   rw [he] at ih
   cases hl : lnT d with
   | nil => rw [hl] at ih; cases ih
   | cons y r =>
    rw [hl] at ih
    simp only [List.map_cons, List.cons.injEq] at ih
    obtain ⟨h1, h2⟩ := ih
    have h1 : u = y := List.append_cancel_left (show spn (p + 2) ++ u = spn (p + 2) ++ y from h1)
    subst h1
    show indL (p, 45 :: 32 :: u) :: tl.map indL = _
    rw [h2]
    simp only [dsh, List.map_cons, List.map_map]
    exact List.cons_eq_cons.2 ⟨rfl, List.map_congr_left fun z _ => two_spn p z⟩
theorem rwM_lines : ∀ (ks : List L8) (ds : List Nd) (p : Nat), (∀ d ∈ ds, Fine d) → (rwM ks ds p).map indL = (lnM ks ds).map fun y => spn p ++ y
 | k :: ks, d :: ds, p, hf => by
  have hd : Fine d := hf d List.mem_cons_self
  rw [rwM, lnM, List.map_append, List.map_append, rwM_lines ks ds p (fun e he => hf e (List.mem_cons_of_mem _ he))]
  congr 1
  by_cases hs : shrt d = true
  ·rw [if_pos hs, if_pos hs]
   show [spn p ++ (keyw k ++ 58 :: 32 :: scal d)] = [spn p ++ (keyw k ++ [58] ++ [32] ++ scal d)]
   simp
  ·have hs0 : shrt d = false := Bool.eq_false_iff.2 hs
   have ih := rws_lines d (p + 2) hd hs0
   rw [if_neg hs, if_neg hs]
   simp only [List.map_cons, ih, List.map_map]
   exact List.cons_eq_cons.2 ⟨rfl, List.map_congr_left fun z _ => two_spn p z⟩
 | [], ds, p, _ => by
  rw [rwM, lnM]
  ·rfl
  ·intros; contradiction
  ·intros; contradiction
 | _ :: _, [], p, _ => by
  rw [rwM, lnM]
  ·rfl
  ·intros; contradiction
  ·intros; contradiction
end
theorem wrB_lines {d : Nd} (hf : Fine d) : wrB d = withLf (flL d) := by
 unfold wrB flL
 by_cases h0 : d.kind = 0
 ·rw [if_pos h0, if_pos h0]; rfl
 ·rw [if_neg h0, if_neg h0]
  by_cases h1 : d.kind = 1 ∧ marker d.text = true
  ·rw [if_pos h1, if_pos h1]; unfold withLf; simp
  ·rw [if_neg h1, if_neg h1]
   by_cases hs : shrt d = true
   ·rw [if_pos hs, lnT_short hs]; unfold withLf; simp
   ·have hs0 : shrt d = false := Bool.eq_false_iff.2 hs
    have h := rws_lines d 0 hf hs0
    have h2 : (lnT d).map (fun y => spn 0 ++ y) = lnT d := by
     have : (fun y : L8 => spn 0 ++ y) = id := by funext y; rfl
     rw [this, List.map_id]
    rw [h2] at h
    rw [if_neg hs, ← h]
    unfold withLf
    rw [List.map_map]
    rfl
theorem nl_clean {l : L8} (h : ∀ c ∈ l, c ≠ 10) : nlN l = 0 := by
 unfold nlN
 rw [List.length_eq_zero_iff, List.filter_eq_nil_iff]
 intro c hc
 simpa using h c hc
theorem nl_lf : ∀ {l : List L8}, (∀ x ∈ l, ∀ c ∈ x, c ≠ 10) → nlN (withLf l) = l.length
 | [], _ => rfl
 | x :: l, h => by
  rw [withLf_cons, nl_app, nl_app, nl_clean (h x List.mem_cons_self), nl_lf (fun y hy => h y (List.mem_cons_of_mem _ hy))]
  show 0 + 1 + l.length = l.length + 1
  omega
theorem clean_map {l : List L8} {u : L8} (h : ∀ x ∈ l, ∀ c ∈ x, c ≠ 10) (hu : ∀ c ∈ u, c ≠ 10) : ∀ x ∈ l.map (fun y => u ++ y), ∀ c ∈ x, c ≠ 10 := by
 intro x hx c hc
 obtain ⟨y, hy, rfl⟩ := List.mem_map.1 hx
 rcases List.mem_append.1 hc with hc | hc
 ·exact hu c hc
 ·exact h y hy c hc
theorem sp_clean : ∀ c ∈ ([32, 32] : L8), c ≠ 10 := by decide
theorem dsh_clean {l : List L8} (h : ∀ x ∈ l, ∀ c ∈ x, c ≠ 10) : ∀ x ∈ dsh l, ∀ c ∈ x, c ≠ 10 := by
 cases l with
 | nil => intro x hx; cases hx
 | cons y r =>
  intro x hx
  rcases List.mem_cons.1 hx with rfl | hx
  ·intro c hc
   rcases List.mem_append.1 hc with hc | hc
   ·exact (by decide : ∀ c ∈ ([45, 32] : L8), c ≠ 10) c hc
   ·exact h y List.mem_cons_self c hc
  ·exact clean_map (fun z hz => h z (List.mem_cons_of_mem _ hz)) sp_clean x hx
mutual
theorem lnT_clean : ∀ (d : Nd), ∀ x ∈ lnT d, ∀ c ∈ x, c ≠ 10
 | .mk k t ks ds => by
  intro x hx
  rw [lnT] at hx
  by_cases hs : shrt (.mk k t ks ds) = true
  ·rw [if_pos hs] at hx
   rw [List.mem_singleton.1 hx]
   exact (ok_scal _).no10
  ·rw [if_neg hs] at hx
   by_cases h2 : k = 2
   ·rw [if_pos h2] at hx; exact lnS_clean ds x hx
   ·rw [if_neg h2] at hx; exact lnM_clean ks ds x hx
theorem lnS_clean : ∀ (ds : List Nd), ∀ x ∈ lnS ds, ∀ c ∈ x, c ≠ 10
 | [] => by intro x hx; rw [lnS] at hx; cases hx
 | d :: ds => by
  intro x hx
  rw [lnS] at hx
  rcases List.mem_append.1 hx with hx | hx
  ·exact dsh_clean (lnT_clean d) x hx
  ·exact lnS_clean ds x hx
theorem lnM_clean : ∀ (ks : List L8) (ds : List Nd), ∀ x ∈ lnM ks ds, ∀ c ∈ x, c ≠ 10
 | k :: ks, d :: ds => by
  intro x hx
  rw [lnM] at hx
  rcases List.mem_append.1 hx with hx | hx
  ·by_cases hs : shrt d = true
   ·rw [if_pos hs] at hx
    rw [List.mem_singleton.1 hx]
    have := (ok_key2 k (ok_scal d)).no10
    simpa using this
   ·rw [if_neg hs] at hx
    rcases List.mem_cons.1 hx with rfl | hx
    ·exact (ok_key1 k).no10
    ·exact clean_map (lnT_clean d) sp_clean x hx
  ·exact lnM_clean ks ds x hx
 | [], ds => by intro x hx; rw [lnM] at hx; cases hx; intros; contradiction
 | _ :: _, [] => by intro x hx; rw [lnM] at hx; cases hx; intros; contradiction
end
theorem mark_text {t : L8} (h : marker t = true) : t = [45, 45, 45] ∨ t = [46, 46, 46] := by
 unfold marker at h
 simpa using h
theorem dbl_mark {t : L8} (h : marker t = true) : dblL t = 34 :: t ++ [34] := by
 rcases mark_text h with rfl | rfl <;> decide
theorem flL_clean (d : Nd) : ∀ x ∈ flL d, ∀ c ∈ x, c ≠ 10 := by
 unfold flL
 by_cases h0 : d.kind = 0
 ·rw [if_pos h0]; intro x hx; cases hx
 ·rw [if_neg h0]
  by_cases h1 : d.kind = 1 ∧ marker d.text = true
  ·rw [if_pos h1]
   intro x hx
   rw [List.mem_singleton.1 hx, dbl_mark h1.2]
   rcases mark_text h1.2 with e | e <;> rw [e] <;> decide
  ·rw [if_neg h1]; exact lnT_clean d
theorem wrB_count {d : Nd} (hf : Fine d) : nlN (wrB d) = (flL d).length := by rw [wrB_lines hf]; exact nl_lf (flL_clean d)
theorem line_le {l : List L8} {x : L8} (h : x ∈ l) : x.length ≤ (withLf l).length := by
 induction l with
 | nil => cases h
 | cons y r ih =>
  rw [withLf_cons, List.length_append, List.length_append]
  rcases List.mem_cons.1 h with rfl | h
  ·omega
  ·have := ih h; omega
end E11
end Go.Proofs.YtmdgpejedbkkdaaGreatDoor
namespace Go.Proofs.YtmdgpejedbkkdaaGreatDoor
section
open Go.RowKit Go.Sort
open Nw N8 Q6 F9 B10 E11
theorem isShort_any (d : Nd) (hf : N8.Fine d) (b : Bool) (hb : shrt d = b) (c0 c1 c2 c3 : Value) (w : World) (hd : NdW w d c0 c1 c2 c3) :
  Calls Tryz.prog 56 #[.agg #[c0, c1, c2, c3]] w fun e w' => e = .returned (.bool b) ∧ Below w.heap.size w w' := by
 obtain ⟨k, t, ks, ds⟩ := d
 have HB := hid (Boxed.make hd)
 obtain ⟨⟨h0, h3⟩, -, -, -, -⟩ := fine_in hf
 obtain ⟨rfl, rfl, _, A, cap, rfl, hcap, hcm, _⟩ := hd.parts
 obtain ⟨T, hT⟩ : ∃ T, ba t = T := ⟨_, rfl⟩
 rw [hT] at HB ⊢
 obtain ⟨n, hn⟩ : ∃ n, ds.length = n := ⟨_, rfl⟩
 rw [hn] at HB ⊢
 have hb' : (decide (k < 2) || decide (ds = [])) = b := hb
 have he : decide (ds = []) = decide (n = 0) := by
  rw [decide_eq_decide, ← hn]; exact List.length_eq_zero_iff.symm
 rw [he] at hb'
 obtain ⟨x0, x1, x2, x3⟩ := HB.out.2.1.cells
 have hk4 : k = 0 ∨ k = 1 ∨ k = 2 ∨ k = 3 := by omega
 clear hd hb hT hn he hf h0 h3
 rcases hk4 with rfl | rfl | rfl | rfl
 ·have HE : Hid (b = true) := hid (by rw [← hb']; rfl)
  clear hb'
  go_enter Tryz.func56, Tryz.ntmps56
  go_wp2
  go_ret
  exact ⟨bool_of HE.out, HB.out.1⟩
 ·have HE : Hid (b = true) := hid (by rw [← hb']; rfl)
  clear hb'
  go_enter Tryz.func56, Tryz.ntmps56
  go_wp2
  go_ret
  exact ⟨bool_of HE.out, HB.out.1⟩
 all_goals
  by_cases hn0 : n = 0
  ·subst hn0
   have HE : Hid (b = true) := hid (by rw [← hb']; rfl)
   clear hb'
   go_enter Tryz.func56, Tryz.ntmps56
   go_wp2
   go_ret
   exact ⟨bool_of HE.out, HB.out.1⟩
  ·have m0 : ((n : Int) == 0) = false := beq_eq_false_iff_ne.2 (by omega)
   have HE : Hid (b = false) := hid (by rw [← hb', decide_eq_false hn0]; rfl)
   clear hb' hn0
   go_enter Tryz.func56, Tryz.ntmps56
   go_wp2
   go_ret
   exact ⟨bool_of HE.out, HB.out.1⟩
theorem shortForm_any (d : Nd) (hf : N8.Fine d) (ht : d.text.length ≤ 1000000) (q : ByteArray) (hq : scal d = q.data.toList) (c0 c1 c2 c3 : Value) (w : World) (hd : NdW w d c0 c1 c2 c3) :
  Calls Tryz.prog 57 #[.agg #[c0, c1, c2, c3]] w fun e w' => e = .returned (.string q) ∧ Below w.heap.size w w' := by
 obtain ⟨k, t, ks, ds⟩ := d
 have HB := hid (Boxed.make hd)
 obtain ⟨⟨h0, h3⟩, -, -, -, -⟩ := fine_in hf
 obtain ⟨rfl, rfl, _, A, cap, rfl, _⟩ := hd.parts
 obtain ⟨T, hT⟩ : ∃ T, ba t = T := ⟨_, rfl⟩
 have hTt : T.data.toList = t := by rw [← hT, ba_data]
 rw [hT] at HB ⊢
 obtain ⟨n, hn⟩ : ∃ n, ds.length = n := ⟨_, rfl⟩
 rw [hn] at HB ⊢
 have hq' : (if k = 0 then [110, 117, 108, 108] else if k = 1 then scw t else if k = 2 then [91, 93] else [123, 125]) = q.data.toList := hq
 obtain ⟨x0, x1, x2, x3⟩ := HB.out.2.1.cells
 have hk4 : k = 0 ∨ k = 1 ∨ k = 2 ∨ k = 3 := by omega
 rcases hk4 with rfl | rfl | rfl | rfl
 ·have HQ : Hid ((⟨#[110, 117, 108, 108]⟩ : ByteArray).data.toList = q.data.toList) := hid (by rw [← hq', if_pos rfl])
  clear hd hf hT hTt hq hq' ht h0 h3 hn
  go_enter Tryz.func57, Tryz.ntmps57
  go_wp2
  go_ret
  exact ⟨str_of HQ.out, HB.out.1⟩
 ·have HT := hid (fun W => Scalar_any T W (by rw [← len_eq, hTt]; exact ht) q (by rw [hTt, ← hq', if_neg (by decide), if_pos rfl]))
  clear hd hf hT hTt hq hq' ht h0 h3 hn
  go_enter Tryz.func57, Tryz.ntmps57
  go_wp2_with fail
  refine (HT.out _).mono ?_
  rintro e w1 ⟨rfl, hb⟩
  go_wp2
  go_ret
  exact ⟨rfl, (HB.out.go hb).1⟩
 ·have HQ : Hid ((⟨#[91, 93]⟩ : ByteArray).data.toList = q.data.toList) := hid (by rw [← hq', if_neg (by decide), if_neg (by decide), if_pos rfl])
  clear hd hf hT hTt hq hq' ht h0 h3 hn
  go_enter Tryz.func57, Tryz.ntmps57
  go_wp2
  go_ret
  exact ⟨str_of HQ.out, HB.out.1⟩
 ·have HQ : Hid ((⟨#[123, 125]⟩ : ByteArray).data.toList = q.data.toList) := hid (by rw [← hq', if_neg (by decide), if_neg (by decide), if_neg (by decide)])
  clear hd hf hT hTt hq hq' ht h0 h3 hn
  go_enter Tryz.func57, Tryz.ntmps57
  go_wp2
  go_ret
  exact ⟨str_of HQ.out, HB.out.1⟩
theorem keyForm_any (s : ByteArray) (w : World) (hs : s.size ≤ 1000000) (q : ByteArray) (hq : keyw s.data.toList = q.data.toList) :
  Calls Tryz.prog 84 #[.string s] w fun e w' => e = .returned (.string q) ∧ Below w.heap.size w w' := by
 have HS := hid (fun h W => Scalar_any s W hs q h)
 have HD := hid (fun h W => Double_any s W hs q h)
 unfold keyw at hq
 by_cases hk : s.data.toList = [60, 60]
 ·rw [if_pos hk] at hq
  have HD1 := hid (fun W => HD.out hq W)
  obtain rfl : s = ⟨#[60, 60]⟩ := bytes_of (l := #[60, 60]) hk
  clear hq HS HD hs hk
  go_enter Tryz.func84, Tryz.ntmps84
  go_wp2_with fail
  refine (HD1.out _).mono ?_
  rintro e w2 ⟨rfl, hb⟩
  go_wp2
  go_ret
  exact ⟨rfl, hb⟩
 ·rw [if_neg hk] at hq
  have HS1 := hid (fun W => HS.out hq W)
  have m1 : (s.toList == [60, 60]) = false := by rw [ByteArray.toList_eq]; exact beq_eq_false_iff_ne.2 hk
  clear hq HS HD hs hk
  go_enter Tryz.func84, Tryz.ntmps84
  go_wp2_with fail
  refine (HS1.out _).mono ?_
  rintro e w2 ⟨rfl, hb⟩
  go_wp2
  go_ret
  exact ⟨rfl, hb⟩
theorem isMarker_any (d : Nd) (b : Bool) (hb : (decide (d.kind = 1) && marker d.text) = b) (c0 c1 c2 c3 : Value) (w : World) (hd : NdW w d c0 c1 c2 c3) :
  Calls Tryz.prog 36 #[.agg #[c0, c1, c2, c3]] w fun e w' => e = .returned (.bool b) ∧ Below w.heap.size w w' := by
 obtain ⟨k, t, ks, ds⟩ := d
 have HB := hid (Boxed.make hd)
 obtain ⟨rfl, rfl, _, A, cap, rfl, _⟩ := hd.parts
 obtain ⟨n, hn⟩ : ∃ n, ds.length = n := ⟨_, rfl⟩
 rw [hn] at HB ⊢
 have hb' : (decide (k = 1) && marker t) = b := hb
 clear hd hb
 by_cases h1 : k = 1
 ·subst h1
  have hb2 : marker t = b := hb'
  clear hb'
  by_cases h2 : t = [45, 45, 45]
  ·subst h2
   have HE : Hid (b = true) := hid (by rw [← hb2]; rfl)
   have hT : ba [45, 45, 45] = ⟨#[45, 45, 45]⟩ := rfl
   rw [hT] at HB ⊢
   obtain ⟨x0, x1, x2, x3⟩ := HB.out.2.1.cells
   clear hb2 hn hT
   go_enter Tryz.func36, Tryz.ntmps36
   go_wp2
   go_ret
   exact ⟨bool_of HE.out, HB.out.1⟩
  ·by_cases h3 : t = [46, 46, 46]
   ·subst h3
    have HE : Hid (b = true) := hid (by rw [← hb2]; rfl)
    have hT : ba [46, 46, 46] = ⟨#[46, 46, 46]⟩ := rfl
    rw [hT] at HB ⊢
    obtain ⟨x0, x1, x2, x3⟩ := HB.out.2.1.cells
    clear hb2 hn hT h2
    go_enter Tryz.func36, Tryz.ntmps36
    go_wp2
    go_ret
    exact ⟨bool_of HE.out, HB.out.1⟩
   ·have HE : Hid (b = false) := hid (by
     rw [← hb2, Bool.eq_false_iff]; intro e
     rcases mark_text e with e | e
     ·exact h2 e
     ·exact h3 e)
    obtain ⟨T, hT⟩ : ∃ T, ba t = T := ⟨_, rfl⟩
    have hTt : T.data.toList = t := by rw [← hT, ba_data]
    rw [hT] at HB ⊢
    obtain ⟨x0, x1, x2, x3⟩ := HB.out.2.1.cells
    have m2 : (T.toList == [45, 45, 45]) = false := by rw [ByteArray.toList_eq, hTt]; exact beq_eq_false_iff_ne.2 h2
    have m3 : (T.toList == [46, 46, 46]) = false := by rw [ByteArray.toList_eq, hTt]; exact beq_eq_false_iff_ne.2 h3
    clear hb2 hn hT h2 h3 hTt
    go_enter Tryz.func36, Tryz.ntmps36
    go_wp2
    go_ret
    exact ⟨bool_of HE.out, HB.out.1⟩
 ·have m1 : (k == 1) = false := beq_eq_false_iff_ne.2 h1
  have HE : Hid (b = false) := hid (by rw [← hb', decide_eq_false h1]; rfl)
  obtain ⟨T, hT⟩ : ∃ T, ba t = T := ⟨_, rfl⟩
  rw [hT] at HB ⊢
  obtain ⟨x0, x1, x2, x3⟩ := HB.out.2.1.cells
  clear hb' hn hT h1
  go_enter Tryz.func36, Tryz.ntmps36
  go_wp2
  go_ret
  exact ⟨bool_of HE.out, HB.out.1⟩
end
section
open Go.RowKit Go.Sort
open Nw N8 Q6 F9 B10 E11
attribute [local go_sem] Oper.semAt_some
abbrev T8 : TypeId := 5
theorem enc_q {x : L8} {q : ByteArray} (h : q.data.toList = x) : encStr x = .string q := by subst h; rfl
theorem kept_box {n0 C B : Nat} {w W : World} (hk : Kept T8 n0 C B w W) {b : Nat} {cs : Array Value} {t : TypeId} {fr : Nat × Nat} (h : w.heap[b]? = some (.cells cs t fr)) (hC : C ≤ b) (ht : t ≠ T8) : W.heap[b]? = some (.cells cs t fr) :=
 hk.same b _ h (.inr (.inl ⟨hC, rfl, by simpa [rowOf] using ht⟩))
theorem cell_box {W : World} {b : Nat} {v : Value} {t : TypeId} {fr : Nat × Nat} (h : W.heap[b]? = some (.cells #[v] t fr)) : W.cell? ⟨b, 0, none⟩ = some v := by simp [World.cell?, h]
theorem frozen_box {W : World} {b : Nat} {v : Value} {t : TypeId} (h : W.heap[b]? = some (.cells #[v] t (0, 0))) : W.frozen? ⟨b, 0, none⟩ = false := by simp [World.frozen?, h]
theorem one_iter (n0 C b : Nat) (q : ByteArray) (w : World) (hC : C ≤ b) (hb : w.heap[b]? = some (.cells #[.string q] 9 (0, 0))) :
  IterOk Tryz.prog T8 n0 C 55 #[.pointer (some ⟨b, 0, none⟩)] [q.data.toList] w := by
 intro l J W hW hJ hY h0
 have hc := cell_box (kept_box hW hb hC (by decide))
 obtain ⟨fn, tmps, assign, body, hy, hR⟩ := hY [] q.data.toList W (List.prefix_refl _) h0
 rw [enc_q (q := q) rfl] at hy
 clear hY hb h0 hJ
 refine callsIn_of_wp Tryz.func55 rfl trivial ?_ rfl
 simp only [Tryz.ntmps55, List.size_toArray, List.length_cons, List.length_nil, Nat.reduceAdd, Nat.reduceSub, Array.replicate_succ, Array.replicate_zero, List.push_toArray, List.append_toArray, List.nil_append, List.cons_append]
 gi_wp2
 refine (roundIn_any hR).mono ?_
 rintro e W3 ⟨rfl, hj, hk⟩
 gi_wp2
 go_end0
 exact ⟨⟨_, rfl⟩, hj⟩
theorem oneLine_any (n0 : Nat) (q : ByteArray) (w : World) :
  Calls Tryz.prog 37 #[.string q] w fun e w' => ∃ v, e = .returned v ∧ Below w.heap.size w w' ∧ Seqs Tryz.prog T8 n0 w.heap.size v [q.data.toList] w' := by
 have HI := hid (one_iter n0 w.heap.size w.heap.size q (w.alloc (.cells #[.string q] 9)) (Nat.le_refl _) (World.alloc_heap_new w _))
 have HB := hid (below_alloc w (.cells #[.string q] 9))
 go_enter Tryz.func37, Tryz.ntmps37
 go_wp2
 go_ret
 exact ⟨_, rfl, HB.out, _, _, rfl, enters_of Tryz.func55 (by kernel_rfl) rfl, HI.out⟩
theorem none_iter (n0 C : Nat) (w : World) : IterOk Tryz.prog T8 n0 C 35 #[] [] w := by
 intro l J W hW hJ hY h0
 refine callsIn_of_wp Tryz.func35 rfl trivial ?_ rfl
 simp only [Tryz.ntmps35, List.size_toArray, List.length_cons, List.length_nil, Nat.reduceAdd, Nat.reduceSub, Array.replicate_succ, Array.replicate_zero, List.push_toArray, List.append_toArray, List.nil_append, List.cons_append]
 gi_wp2
 go_end0
 exact ⟨⟨_, rfl⟩, h0⟩
end
end Go.Proofs.YtmdgpejedbkkdaaGreatDoor
