/- RefBlo2, LinRow, LinSplit, RefSplit, FloStep, RefCut, RefBlo5, RefBlo9, BloLaw, PrgCut -/
import Derived.BigQuiet
import Derived.BigRegion
import Derived.ChangeAlike
import Derived.Deep.CutRange
import Derived.RegionTactic
import Derived.Test.YtmdgpejedbkkdaaGreatDoorBT12
import Derived.Test.YtmdgpejedbkkdaaGreatDoorBT14
import Derived.Test.YtmdgpejedbkkdaaGreatDoorBT15
import Derived.Test.YtmdgpejedbkkdaaGreatDoorBT19
import Derived.Test.YtmdgpejedbkkdaaGreatDoorBT2
import Derived.Test.YtmdgpejedbkkdaaGreatDoorBT20
import Derived.Test.YtmdgpejedbkkdaaGreatDoorBT24
import Derived.Test.YtmdgpejedbkkdaaGreatDoorBT5
import Derived.Test.YtmdgpejedbkkdaaGreatDoorBT6
import Derived.Test.YtmdgpejedbkkdaaGreatDoorBT7
set_option linter.unusedVariables false
set_option linter.unusedSimpArgs false
set_option maxRecDepth 100000
set_option maxHeartbeats 16000000
open Go.Lib (hid)
namespace Go.Proofs.YtmdgpejedbkkdaaGreatDoor
open Go.RowKit Go.Sort
open Nw N8 Q6 F9 B10
namespace B10
def entN (K : Option (Option (L8 × L8))) : Int := match K with | none => -1 | some none => 0 | some (some _) => 1
def entY (K : Option (Option (L8 × L8))) : L8 := match K with | some (some p) => p.1 | _ => []
def entR (K : Option (Option (L8 × L8))) : L8 := match K with | some (some p) => p.2 | _ => []
theorem ent_zero {l : L8} (h : (decide (l = []) || hyp l || decide (l.headD 0 = 91) || decide (l.headD 0 = 123)) = true) : entP l = some none := by
 unfold entP; exact if_pos h
theorem ent_quote {l : L8} (h : (decide (l = []) || hyp l || decide (l.headD 0 = 91) || decide (l.headD 0 = 123)) = false) (hq : isQ (l.headD 0) = true) : entP l = match scnP l with | none => some none | some p => if mrk l p.2 then some (some (p.1, bhd l p.2)) else some none := by
 unfold entP
 rw [if_neg (by rw [h]; decide), if_pos hq]
 cases scnP l <;> rfl
theorem ent_plain {l : L8} (h : (decide (l = []) || hyp l || decide (l.headD 0 = 91) || decide (l.headD 0 = 123)) = false) (hq : isQ (l.headD 0) = false) : entP l = match fstM l 0 with | none => some none | some k => if plainB (l.take k) && !decide (l.take k = [60, 60]) then some (some (l.take k, bhd l k)) else none := by
 unfold entP
 rw [if_neg (by rw [h]; decide), if_neg (by rw [hq]; decide)]
 cases fstM l 0 <;> rfl
theorem fst_go {l : L8} {k : Nat} (h : k < l.length) (hm : mrk l k = false) : fstM l k = fstM l (k + 1) := by rw [fstM, dif_pos h, hm, if_neg Bool.false_ne_true]
theorem fst_at {l : L8} {k : Nat} (h : k < l.length) (hm : mrk l k = true) : fstM l k = some k := by rw [fstM, dif_pos h, if_pos hm]
theorem fst_end {l : L8} {k : Nat} (h : l.length ≤ k) : fstM l k = none := by rw [fstM, dif_neg (by omega)]
end B10
end Go.Proofs.YtmdgpejedbkkdaaGreatDoor
namespace Go.Proofs.YtmdgpejedbkkdaaGreatDoor
section
open Go.RowKit Go.Sort
open Q6
def encN (x : Ln) : List Value := [.int .i64 (x.no : Int), .int .i64 (x.ind : Int), .string ⟨x.text.toArray⟩]
def cellsN (ls : List Ln) : List Value := (ls.map encN).flatten
theorem cellsN_snoc (ls : List Ln) (x : Ln) : cellsN (ls ++ [x]) = cellsN ls ++ encN x := by unfold cellsN; simp
theorem cellsN_at (ls : List Ln) (k : Nat) (h : k < ls.length) : (cellsN ls)[k * 3]? = some (.int .i64 ((ls[k]'h).no : Int)) ∧ (cellsN ls)[k * 3 + 1]? = some (.int .i64 ((ls[k]'h).ind : Int)) ∧ (cellsN ls)[k * 3 + 2]? = some (.string ⟨(ls[k]'h).text.toArray⟩) := by
 induction ls generalizing k with
 | nil => cases h
 | cons x ls ih =>
  have e : cellsN (x :: ls) = .int .i64 (x.no : Int) :: .int .i64 (x.ind : Int) :: .string ⟨x.text.toArray⟩ :: cellsN ls := rfl
  rw [e]
  cases k with
  | zero => exact ⟨rfl, rfl, rfl⟩
  | succ k =>
   have := ih k (Nat.lt_of_succ_lt_succ h)
   rw [show (k + 1) * 3 = k * 3 + 1 + 1 + 1 by omega, show k * 3 + 1 + 1 + 1 + 1 = k * 3 + 1 + 1 + 1 + 1 by rfl]
   refine ⟨?_, ?_, ?_⟩
   ·rw [List.getElem?_cons_succ, List.getElem?_cons_succ, List.getElem?_cons_succ]; exact this.1
   ·rw [List.getElem?_cons_succ, List.getElem?_cons_succ, List.getElem?_cons_succ]; exact this.2.1
   ·rw [show k * 3 + 1 + 1 + 1 + 2 = k * 3 + 2 + 1 + 1 + 1 by omega, List.getElem?_cons_succ, List.getElem?_cons_succ, List.getElem?_cons_succ]; exact this.2.2
theorem three_one (a b : Int) (t : ByteArray) : ∀ u ∈ [Value.int .i64 a, Value.int .i64 b, Value.string t], u.oneCell' = true := by
 intro u hu
 simp only [List.mem_cons, List.not_mem_nil, or_false] at hu
 rcases hu with rfl | rfl | rfl <;> rfl
theorem infoL0 : (Tryz.prog.info? 62).map (fun i => (i.zero, i.size, i.bytes)) = some (some (.agg #[.int .i64 0, .int .i64 0, .string ⟨#[]⟩]), 3, 32) := by kernel_rfl
theorem infoL : ∃ i, Tryz.prog.info? 62 = some i ∧ i.zero = some (.agg #[.int .i64 0, .int .i64 0, .string ⟨#[]⟩]) ∧ i.size = 3 ∧ i.bytes = 32 := by
 have h := infoL0
 cases hi : Tryz.prog.info? 62 with
 | none => rw [hi] at h; cases h
 | some i =>
  rw [hi] at h
  simp only [Option.map_some, Option.some.injEq, Prod.mk.injEq] at h
  exact ⟨i, rfl, h.1, h.2.1, h.2.2⟩
theorem owns_lower {w : World} {base base' n size : Nat} {e : TypeId} {v : Value} {xs : List Value} (h : w.ownsRow base e size v n xs) (hb : base' ≤ base) : w.ownsRow base' e size v n xs := by
 refine ⟨h.1, ?_⟩
 rcases h.2 with h0 | ⟨g, cap, cur, h1, h2, h3⟩
 ·exact .inl h0
 ·exact .inr ⟨g, cap, cur, h1, Nat.le_trans hb h2, h3⟩
def RowsIn (rows : List ByteArray) (w w' : World) : Prop := Below w.heap.size w w' ∧ w.heap.size + 1 ≤ w'.heap.size ∧ w'.heap[w.heap.size]? = some (.cells (rows.map Value.string).toArray 9 (0, 0))
theorem RowsIn.go {rows : List ByteArray} {w w1 w2 : World} (h : RowsIn rows w w1) (hb : Below w1.heap.size w1 w2) : RowsIn rows w w2 :=
 ⟨h.1.trans (hb.mono h.1.size), Nat.le_trans h.2.1 hb.size, (hb.block _ (Nat.lt_of_lt_of_le (Nat.lt_succ_self _) h.2.1)).trans h.2.2⟩
theorem RowsIn.grown {rows : List ByteArray} {w w1 w2 : World} {row : Option Nat} (h : RowsIn rows w w1) (hg : w1.grownBy w2 row) (hr : ∀ q, row = some q → w.heap.size + 1 ≤ q) : RowsIn rows w w2 :=
 ⟨h.1.grown hg h.1.size (fun q hq => by have := hr q hq; omega), Nat.le_trans h.2.1 hg.size, (hg.block _ (Nat.lt_of_lt_of_le (Nat.lt_succ_self _) h.2.1) (fun e => by have := hr _ e.symm; omega)).trans h.2.2⟩
theorem RowsIn.at_ {rows : List ByteArray} {w w1 : World} (h : RowsIn rows w w1) (k : Nat) (hk : k < rows.length) : w1.cell? ⟨w.heap.size, k, none⟩ = some (.string (rows[k]'hk)) := by
 rw [cell_of_row w1 w.heap.size k _ 9 (0, 0) h.2.2, List.getElem?_toArray, List.getElem?_map, List.getElem?_eq_getElem hk]; rfl
theorem split_rows (s : ByteArray) (w : World) (hw : SomeMax w) (hs : s.size ≤ 100000) : ∃ rows : List ByteArray, rows.map (·.data.toList) = rowsL s.data.toList ∧ 0 < rows.length ∧ rows.length ≤ s.size + 1 ∧
  Calls Tryz.prog 49 #[.string s, .string ⟨#[10]⟩] w fun e w' => e = .returned (.slice (some ⟨w.heap.size, 0, none⟩) rows.length rows.length) ∧ RowsIn rows w w' := by
 obtain ⟨m, hm⟩ := hw
 refine ⟨Lib.splitB ⟨#[10]⟩ 0 (Lib.countB s ⟨#[10]⟩) s, ?_, ?_, ?_, ?_⟩
 ·rw [Lib.splitB_data]; exact rows_split _
 ·rw [Lib.splitB_all ⟨#[10]⟩ (by decide) 0 _ s rfl]; exact Nat.succ_pos _
 ·rw [Lib.splitB_all ⟨#[10]⟩ (by decide) 0 _ s rfl]
  have := Lib.countB_le ⟨#[10]⟩ (by decide) s.size s (Nat.le_refl _)
  omega
 ·rw [Lib.splitB_all ⟨#[10]⟩ (by decide) 0 _ s rfl]
  refine (Tryz.strings_Split s ⟨#[10]⟩ m w (by omega) hm (by decide)).mono ?_
  rintro e w' ⟨rfl, rfl⟩
  exact ⟨rfl, (Below.refl _ _).alloc (Nat.le_refl _) _, by simp, row_new w _⟩
end
section
open Go.RowKit Go.Sort
open Q6
theorem parse_err (s : ByteArray) (no : Int) (w : World) (hw : SomeMax w) (hs : s.size ≤ 100000) (h : oneL s.data.toList = none) :
  Calls Tryz.prog 50 #[.string s, .int .i64 no] w fun e w' => e = .returned (.tuple #[.agg #[.int .i64 0, .int .i64 0, .string ⟨#[]⟩], .bool false]) ∧ Below w.heap.size w w' := by
 unfold oneL at h
 rw [sayL_con] at h
 unfold conL at h
 cases hc : conE (s.data.toList.drop (indN s.data.toList)) 0 with
 | none => exact parse_none s no w hw hs hc
 | some e =>
  rw [hc] at h
  obtain ⟨t, ht⟩ : ∃ t : ByteArray, (s.data.toList.drop (indN s.data.toList)).take (trimN (s.data.toList.drop (indN s.data.toList)) e) = t.data.toList := ⟨⟨((s.data.toList.drop (indN s.data.toList)).take (trimN (s.data.toList.drop (indN s.data.toList)) e)).toArray⟩, by simp⟩
  simp only [Option.bind_some, ht] at h
  rcases Bool.eq_false_or_eq_true (goodL t.data.toList) with hg | hg
  ·rw [if_pos hg] at h
   have h' : (if indN s.data.toList = 0 ∧ marker t.data.toList = true then (none : Option (Nat × List UInt8)) else some (indN s.data.toList, t.data.toList)) = none := h
   split at h'
   ·rename_i hm
    exact parse_mark s no w hw hs e _ rfl hc t ht hg hm.1 hm.2
   ·cases h'
  ·exact parse_bad s no w hw hs e _ rfl hc t ht hg
theorem parse_ok (s : ByteArray) (no : Int) (w : World) (hw : SomeMax w) (hs : s.size ≤ 100000) (i : Nat) (t : ByteArray) (h : oneL s.data.toList = some (i, t.data.toList)) :
  Calls Tryz.prog 50 #[.string s, .int .i64 no] w fun e w' => e = .returned (.tuple #[.agg #[.int .i64 no, .int .i64 (i : Int), .string t], .bool true]) ∧ Below w.heap.size w w' := by
 unfold oneL at h
 rw [sayL_con] at h
 unfold conL at h
 cases hc : conE (s.data.toList.drop (indN s.data.toList)) 0 with
 | none => rw [hc] at h; cases h
 | some e =>
  rw [hc] at h
  obtain ⟨u, hu⟩ : ∃ u : ByteArray, (s.data.toList.drop (indN s.data.toList)).take (trimN (s.data.toList.drop (indN s.data.toList)) e) = u.data.toList := ⟨⟨((s.data.toList.drop (indN s.data.toList)).take (trimN (s.data.toList.drop (indN s.data.toList)) e)).toArray⟩, by simp⟩
  simp only [Option.bind_some, hu] at h
  rcases Bool.eq_false_or_eq_true (goodL u.data.toList) with hg | hg
  ·rw [if_pos hg] at h
   have h' : (if indN s.data.toList = 0 ∧ marker u.data.toList = true then (none : Option (Nat × List UInt8)) else some (indN s.data.toList, u.data.toList)) = some (i, t.data.toList) := h
   split at h'
   ·cases h'
   ·rename_i hm
    have h2 := Option.some.inj h'
    have hi : indN s.data.toList = i := congrArg Prod.fst h2
    have htt : u = t := bytes_ext (congrArg Prod.snd h2)
    subst htt
    by_cases i0 : i = 0
    ·exact parse_flat s no w hw hs e i hi hc u hu hg i0 (Bool.eq_false_iff.2 fun hx => hm ⟨hi.trans i0, hx⟩)
    ·exact parse_deep s no w hw hs e i hi hc u hu hg i0
  ·rw [if_neg (by rw [hg]; decide)] at h; cases h
def GivesO (ls : List Ln) (n : Nat) (E : Int) (w : World) (e : Ending) (w' : World) : Prop :=
 ∃ v, e = .returned (.tuple #[v, .int .i64 (n : Int), .int .i64 E]) ∧ w'.ownsRow w.heap.size 62 3 v ls.length (cellsN ls) ∧ Below w.heap.size w w'
theorem walkL_bad {no : Nat} {acc : List Ln} {r : List UInt8} {rs : List (List UInt8)} (h : oneL r = none) : walkL no acc (r :: rs) = ([], no + 1, 3) := by rw [walkL, h]
theorem walkL_next {no : Nat} {acc : List Ln} {r : List UInt8} {rs : List (List UInt8)} {k : Nat} {t : List UInt8} (h : oneL r = some (k, t)) :
  walkL no acc (r :: rs) = walkL (no + 1) (if t = [] then acc else acc ++ [⟨no + 1, k, t⟩]) rs := by rw [walkL, h]
theorem rows_len (l : List UInt8) : ∀ r ∈ rowsL l, r.length ≤ l.length := by
 induction l with
 | nil => intro r hr; rw [List.mem_singleton.1 hr]; exact Nat.le_refl _
 | cons c l ih =>
  intro r hr
  unfold rowsL at hr
  split at hr
  ·rcases List.mem_cons.1 hr with rfl | hr
   ·exact Nat.zero_le _
   ·have := ih r hr; rw [List.length_cons]; omega
  ·split at hr
   ·rename_i r0 rs he
    rw [he] at ih
    rcases List.mem_cons.1 hr with rfl | hr
    ·have := ih r0 (List.mem_cons_self ..); rw [List.length_cons, List.length_cons]; omega
    ·have := ih r (List.mem_cons_of_mem _ hr); rw [List.length_cons]; omega
   ·rw [List.mem_singleton.1 hr]; simp
theorem Split_own (s : ByteArray) (w : World) (hw : SomeMax w) (hs : s.size ≤ 100000) (ls : List Ln) (n : Nat) (E : Int) (hf : fileL s.data.toList = (ls, n, E)) :
  Calls Tryz.prog 29 #[.string s] w (GivesO ls n E w) := by
 have HLEN := hid (len_eq s)
 by_cases hlen : (8192 : Int) < (s.size : Int)
 ·have HF : Hid (([], 0, 9) = (ls, n, E)) := hid (by rw [← hf]; unfold fileL; rw [if_pos (show 8192 < s.data.toList.length by rw [HLEN.out]; omega)])
  clear hf
  go_enter Tryz.func29, Tryz.ntmps29
  go_wp2
  go_ret3
  have h := HF.out
  cases h
  exact ⟨_, rfl, World.ownsRow_nil _ _ _ _, Below.refl _ _⟩
 obtain ⟨i0, hi, hz0, hz1, hz2⟩ := infoL
 obtain ⟨rows, hrows, hpos, hrl, hcall⟩ := split_rows s w hw hs
 have hwalk : walkL 0 [] (rows.map (·.data.toList)) = (ls, n, E) := by
  rw [hrows, walk_split _ _ _ _ (Nat.le_refl _), ← hf]
  unfold fileL
  rw [if_neg (show ¬ 8192 < s.data.toList.length by rw [HLEN.out]; omega)]
 have hsz : ∀ r ∈ rows, r.size ≤ 100000 := by
  intro r hr
  have := rows_len s.data.toList r.data.toList (by rw [← hrows]; exact List.mem_map_of_mem hr)
  rw [len_eq, len_eq] at this
  omega
 obtain ⟨R, hR⟩ : ∃ R, R = (ls, n, E) := ⟨_, rfl⟩
 rw [← hR] at hwalk
 have HR0 := hid hwalk
 have HRR := hid hR
 have HSZ := hid hsz
 obtain ⟨N, hN⟩ : ∃ N, rows.length = N := ⟨_, rfl⟩
 rw [hN] at hcall hpos hrl
 have hNs : N ≤ 100001 := by omega
 have HN := hid hN
 have HC := hid hcall
 have HW := hid hw
 clear hwalk hR hsz hrows hN hcall hf hw hpos hrl
 go_enter Tryz.func29, Tryz.ntmps29
 go_wp2_with (go_at_call 49; refine HC.out.mono ?_; rintro e w1 ⟨rfl, hr1⟩)
 have HB0 := hid hr1
 clear hr1
 go_loopw [5, 16] (fun sv si wr => ∃ (k : Nat) (acc : List Ln), k ≤ N ∧ acc.length ≤ k ∧ si = .int .i64 (k : Int) ∧ wr.ownsRow (w.heap.size + 1) 62 3 sv acc.length (cellsN acc) ∧
  RowsIn rows w wr ∧ Hid (walkL k acc ((rows.map (·.data.toList)).drop k) = R)) (fun _ si _ => N - (intOf si).toNat)
 case atStart => exact ⟨0, [], Nat.zero_le _, Nat.le_refl _, rfl, World.ownsRow_nil _ _ _ _, HB0.out, HR0⟩
 case round =>
  obtain ⟨k, acc, hk, hak, rfl, hown, hrin, HW1⟩ := hrel
  have HB := hid hrin
  clear hrin
  by_cases hlt : k < N
  ·have hkr : k < rows.length := by rw [HN.out]; exact hlt
   have hskz : (k : Int) < (N : Int) := by omega
   have kw : IntKind.i64.wrap ((k : Int) + 1) = (k : Int) + 1 := IntWalk.i64_in _ (by omega)
   obtain ⟨r, hr⟩ : ∃ r, rows[k]'hkr = r := ⟨_, rfl⟩
   have hrc : wr.cell? ⟨w.heap.size, k, none⟩ = some (.string r) := by rw [← hr]; exact HB.out.at_ k hkr
   have hrs : r.size ≤ 100000 := by rw [← hr]; exact HSZ.out _ (List.getElem_mem hkr)
   have hdrop : (rows.map (·.data.toList)).drop k = r.data.toList :: (rows.map (·.data.toList)).drop (k + 1) := by
    rw [List.drop_eq_getElem_cons (by rw [List.length_map]; exact hkr), List.getElem_map, hr]
   rw [hdrop] at HW1
   have HWr := hid (HW.out.keep HB.out.1)
   clear hdrop hr
   cases ho : oneL r.data.toList with
   | none =>
    have HE : Hid (([], k + 1, 3) = R) := hid (by rw [← HW1.out, walkL_bad ho])
    have HP := hid (fun w0 h0 => parse_err r ((k : Int) + 1) w0 h0 hrs ho)
    have HO := hid hown
    clear hown ho HW1
    go_wp2_with fail
    refine (HP.out _ HWr.out).mono ?_
    rintro e w2 ⟨rfl, hb2⟩
    have h2 := hid (HB.out.go hb2)
    clear hb2
    go_wp2
    go_ret3
    have h := HE.out.trans HRR.out
    cases h
    exact ⟨_, rfl, World.ownsRow_nil _ _ _ _, h2.out.1.alloc h2.out.1.size _⟩
   | some p =>
    obtain ⟨i, t0⟩ := p
    obtain ⟨t, rfl⟩ : ∃ t : ByteArray, t0 = t.data.toList := ⟨⟨t0.toArray⟩, by simp⟩
    have HP := hid (fun w0 h0 => parse_ok r ((k : Int) + 1) w0 h0 hrs i t ho)
    by_cases ht : t.data.toList = []
    ·have HN2 : Hid (walkL (k + 1) acc ((rows.map (·.data.toList)).drop (k + 1)) = R) := hid (by rw [← HW1.out, walkL_next ho, if_pos ht])
     obtain rfl := bytes_of (l := #[]) ht
     have HO := hid hown
     clear hown ho HW1 ht
     go_wp2_with fail
     refine (HP.out _ HWr.out).mono ?_
     rintro e w2 ⟨rfl, hb2⟩
     have h2 := hid (HB.out.go hb2)
     have h3 := hid (owns_below HO.out hb2)
     clear hb2
     go_wp2
     go_roundw
     case measure => simp [intOf]; omega
     case rel => exact ⟨k + 1, acc, by omega, by omega, by go_num, h3.out.alloc _, h2.out.go ((Below.refl _ _).alloc (Nat.le_refl _) _), HN2⟩
    ·have HN2 : Hid (walkL (k + 1) (acc ++ [⟨k + 1, i, t.data.toList⟩]) ((rows.map (·.data.toList)).drop (k + 1)) = R) := hid (by rw [← HW1.out, walkL_next ho, if_neg ht])
     have b0 : t.toList.isEmpty = false := by rw [ByteArray.toList_eq, List.isEmpty_eq_false_iff]; exact ht
     have b0' : ¬ t.toList = [] := by rw [ByteArray.toList_eq]; exact ht
     have HO := hid hown
     obtain ⟨YS, hYS⟩ : ∃ YS, YS = cellsN acc := ⟨_, rfl⟩
     obtain ⟨al, hal⟩ : ∃ al, acc.length = al := ⟨_, rfl⟩
     rw [← hYS, hal] at HO
     have HYS := hid hYS
     have hal2 : al ≤ N := by omega
     have HAL := hid hal
     have HAK : Hid (al ≤ k) := hid (by omega)
     clear hown ho HW1 ht hYS hal hak
     go_wp2_with fail
     refine (HP.out _ HWr.out).mono ?_
     rintro e w2 ⟨rfl, hb2⟩
     have h2 := hid (HB.out.go hb2)
     have h3 := owns_below HO.out hb2
     clear hb2
     go_wp2_with (at_builtin; refine wpList_append_own _ rfl _ _ 54 rfl (w.heap.size + 1) 62 i0 _ 3 32 Tryz.underlying54 hi hz0 hz1 hz2 rfl (by decide) _ _ _ rfl ((h3.alloc _).alloc _) ⟨w2.heap.size + 1, 0, none⟩ 1 1 [.int .i64 ((k : Int) + 1), .int .i64 (i : Int), .string t] rfl rfl ?c1 ?c2 ?c3 ?c4 ?c5 ?_)
     case c1 =>
      have := cells_new (w2.alloc (.cells #[.int .i64 ((k : Int) + 1), .int .i64 (i : Int), .string t] 62)) #[.int .i64 ((k : Int) + 1), .int .i64 (i : Int), .string t] 62
      simpa using this
     case c2 => exact three_one _ _ _
     case c3 => unfold maxLen; omega
     case c4 => omega
     case c5 => have := h2.out.2.1; simp; omega
     ·intro v' w3 hown' hgrow hnil
      have HW2 := hid hown'
      have HG2 := hid hgrow
      have HOy := hid h3
      clear hown' hgrow h3 hnil
      go_wp2
      go_roundw
      case measure => simp [intOf]; omega
      case rel =>
       have hlow : ∀ q, u5.ownBlock = some q → w.heap.size + 1 ≤ q := fun q hq => (HOy.out.lt q hq).1
       refine ⟨k + 1, acc ++ [⟨k + 1, i, t.data.toList⟩], by omega, by rw [List.length_append, HAL.out]; show al + 1 ≤ _; have := HAK.out; omega, by go_num, ?_, ?_, HN2⟩
       ·rw [List.length_append, HAL.out, cellsN_snoc, ← HYS.out]; exact HW2.out
       ·exact ((h2.out.go ((Below.refl _ _).alloc (Nat.le_refl _) _)).go ((Below.refl _ _).alloc (Nat.le_refl _) _)).grown HG2.out hlow
  ·obtain rfl : k = N := by omega
   have HE : Hid ((acc, 0, 0) = R) := hid (by rw [← HW1.out, List.drop_of_length_le (by rw [List.length_map, HN.out]; exact Nat.le_refl _)]; rfl)
   have HO := hid hown
   clear hown
   go_wp2
   go_ret3
   have h := HE.out.trans HRR.out
   cases h
   exact ⟨_, rfl, owns_lower HO.out (Nat.le_succ _), HB.out.1⟩
end
section
open Go.RowKit Go.Sort
open Q6
theorem from_data (s : ByteArray) (k : Nat) : (s.extract k s.size).data.toList = s.data.toList.drop k := by rw [Lib.extract_from]
end
end Go.Proofs.YtmdgpejedbkkdaaGreatDoor
namespace Go.Proofs.YtmdgpejedbkkdaaGreatDoor
namespace F9
open Nw N8 Q6
theorem blk_idem (l : L8) : blk (l.drop (blk l)) = 0 := by
 induction l with
 | nil => rfl
 | cons c l ih =>
  by_cases hc : c = 32
  ·rw [blk_cons, if_pos hc]; exact ih
  ·rw [blk_no hc]; exact blk_no hc
def rowR (t : L8) : Option (Nd × Nat) := if (t.drop (blk t)).headD 0 = 93 then some (.mk 2 [] [] [], blk t + 1) else rowP t []
def prsR (t : L8) : Option (Nd × Nat) := if (t.drop (blk t)).headD 0 = 125 then some (.mk 3 [] [] [], blk t + 1) else prsP t [] []
theorem val_row (t : L8) : valP (91 :: t) = (rowR t).map (bump 1) := by
 rw [valP, if_pos rfl]
 unfold rowR
 split
 ·show some _ = some _
  simp only [bump]
  congr 2
  omega
 ·rfl
theorem val_prs (t : L8) : valP (123 :: t) = (prsR t).map (bump 1) := by
 rw [valP, if_neg (by decide), if_pos rfl]
 unfold prsR
 split
 ·show some _ = some _
  simp only [bump]
  congr 2
  omega
 ·rfl
theorem row_eq {d : Nd} {l : L8} {acc : List Nd} {m n : Nat} (h : valP (l.drop (blk l)) = some (d, m)) (hm : m ≠ 0) (hn : blk l + m + blk (l.drop (blk l + m)) = n) :
  rowP l acc = if (l.drop n).headD 0 = 93 then some (.mk 2 [] [] (acc ++ [d]), n + 1) else if (l.drop n).headD 0 = 44 then (rowP (l.drop (n + 1)) (acc ++ [d])).map (bump (n + 1)) else none := by
 subst hn
 rw [rowP, h]
 show (if m = 0 then none else _) = _
 rw [if_neg hm]
 split
 ·rename_i h9
  rw [h9]
  rfl
 ·rename_i c t h9
  have e : l.drop (blk l + m + blk (l.drop (blk l + m)) + 1) = t := by rw [← List.drop_drop, h9]; rfl
  rw [h9, e]
  rfl
theorem row_none {l : L8} {acc : List Nd} (h : valP (l.drop (blk l)) = none) : rowP l acc = none := by rw [rowP, h]
theorem row_zero {d : Nd} {l : L8} {acc : List Nd} (h : valP (l.drop (blk l)) = some (d, 0)) : rowP l acc = none := by rw [rowP, h]; exact if_pos rfl
theorem prs_none {l : L8} {ak : List L8} {ad : List Nd} (h : keyP (l.drop (blk l)) = none) : prsP l ak ad = none := by
 rw [prsP]
 split
 ·rfl
 ·rename_i h9; rw [h] at h9; cases h9
theorem prs_twice {l : L8} {ak : List L8} {ad : List Nd} {x : L8} {j : Nat} (h : keyP (l.drop (blk l)) = some (x, j)) (hx : x ∈ ak) : prsP l ak ad = none := by
 rw [prsP]
 split
 ·rfl
 ·rename_i h9
  rw [h] at h9
  injection h9 with h9
  injection h9 with h9 h10
  subst h9
  rw [if_pos hx]
theorem prs_noval {l : L8} {ak : List L8} {ad : List Nd} {x : L8} {j a : Nat} (h : keyP (l.drop (blk l)) = some (x, j)) (ha : blk l + j + blk (l.drop (blk l + j)) = a) (hv : valP (l.drop a) = none) : prsP l ak ad = none := by
 subst ha
 rw [prsP]
 split
 ·rfl
 ·rename_i h9
  rw [h] at h9
  injection h9 with h9
  injection h9 with h9 h10
  subst h9; subst h10
  rw [hv]
  split <;> rfl
theorem prs_eq {x : L8} {d : Nd} {l : L8} {ks : List L8} {ds : List Nd} {j a m n : Nat} (hk : keyP (l.drop (blk l)) = some (x, j)) (hx : x ∉ ks) (ha : blk l + j + blk (l.drop (blk l + j)) = a) (h : valP (l.drop a) = some (d, m)) (hn : a + m + blk (l.drop (a + m)) = n) :
  prsP l ks ds = if (l.drop n).headD 0 = 125 then some (.mk 3 [] (ks ++ [x]) (ds ++ [d]), n + 1) else if (l.drop n).headD 0 = 44 then (prsP (l.drop (n + 1)) (ks ++ [x]) (ds ++ [d])).map (bump (n + 1)) else none := by
 cases hd : l.drop n with
 | nil =>
  subst ha
  subst hn
  rw [prsP]
  split
  ·rfl
  ·rename_i x9 j9 h9
   rw [hk] at h9
   injection h9 with h9
   injection h9 with h9 h10
   subst h9; subst h10
   rw [if_neg hx, h]
   show (match _h : l.drop _ with | [] => none | c :: t => _) = _
   split
   ·rfl
   ·rename_i h9; rw [hd] at h9; cases h9
 | cons c t =>
  have e : l.drop (n + 1) = t := by rw [← List.drop_drop, hd]; rfl
  rw [prs_step hk hx ha h hn hd, e]
  rfl
end F9
end Go.Proofs.YtmdgpejedbkkdaaGreatDoor
namespace Go.Proofs.YtmdgpejedbkkdaaGreatDoor
section
open Go.RowKit Go.Sort
open Q6
def cutN (l : List UInt8) (k : Nat) : Nat := k + indN (l.drop k)
theorem cutN_le {l : List UInt8} {k : Nat} (h : k ≤ l.length) : cutN l k ≤ l.length := by
 unfold cutN
 have := indN_le (l.drop k)
 rw [List.length_drop] at this
 omega
end
end Go.Proofs.YtmdgpejedbkkdaaGreatDoor
namespace Go.Proofs.YtmdgpejedbkkdaaGreatDoor
open Go.RowKit Go.Sort
open Nw N8 Q6 F9 B10 Go.ChangeShapes Go.WideShapes
namespace B10
def FineB (ls : List Ln) : Prop := ls.length ≤ 100000 ∧ ∀ (j : Nat) (h : j < ls.length), (ls[j]'h).ind + (ls[j]'h).text.length ≤ 100000
theorem cut1_fine {x : Ln} (h1 : 1 < x.text.length) (h : x.ind + x.text.length ≤ 100000) : (cut1 x).ind + (cut1 x).text.length ≤ 100000 := by
 have h2 : indN (x.text.drop 1) ≤ (x.text.drop 1).length := indN_le _
 rw [List.length_drop] at h2
 show x.ind + (1 + indN (x.text.drop 1)) + (x.text.drop (1 + indN (x.text.drop 1))).length ≤ _
 rw [List.length_drop]
 omega
theorem fineB_set {ls : List Ln} (hf : FineB ls) {j : Nat} (hj : j < ls.length) (h1 : 1 < (ls[j]'hj).text.length) : FineB (ls.set j (cut1 (ls[j]'hj))) := by
 refine ⟨by rw [List.length_set]; exact hf.1, fun i hi => ?_⟩
 rw [List.length_set] at hi
 by_cases hij : j = i
 ·subst hij
  rw [List.getElem_set_self]
  exact cut1_fine h1 (hf.2 j hj)
 ·rw [List.getElem_set_ne hij]
  exact hf.2 i hi
theorem set_drop {ls : List Ln} {j : Nat} (hj : j < ls.length) (x : Ln) : (ls.set j x).drop j = x :: ls.drop (j + 1) := by
 rw [List.drop_eq_getElem_cons (by rw [List.length_set]; exact hj), List.getElem_set_self, List.drop_set, if_pos (Nat.lt_succ_self j)]
theorem more_zero (r : Res) : r.more 0 = r := by
 cases r with
 | bad n e => rfl
 | ok d k => show Res.ok d (0 + k) = _; rw [Nat.zero_add]
theorem more_more (r : Res) (a b : Nat) : (r.more a).more b = r.more (b + a) := by
 cases r with
 | bad n e => rfl
 | ok d k => show Res.ok d (b + (a + k)) = Res.ok d (b + a + k); rw [Nat.add_assoc]
theorem kids_took {n : Nat} {x : Ln} {l : List Ln} {d : Nd} {k : Nat} (h : kidS n x l = .ok d k) : 1 ≤ k ∧ k ≤ l.length + 1 := by
 unfold kidS at h
 split at h
 ·exact blk_took h
 ·split at h
  ·obtain ⟨m, h1, h2⟩ := more_ok h
   cases l with
   | nil => rename_i hdp; cases hdp
   | cons z l => have := blk_took h1; exact ⟨by omega, by rw [List.length_cons]; omega⟩
  ·injection h with h1 h2; exact ⟨by omega, by omega⟩
theorem kidm_took {n : Nat} {x : Ln} {l : List Ln} {r : L8} {d : Nd} {k : Nat} (h : kidM n x l r = .ok d k) : 1 ≤ k ∧ k ≤ l.length + 1 := by
 unfold kidM at h
 split at h
 ·have := val_one h; exact ⟨by omega, by omega⟩
 ·split at h
  ·obtain ⟨m, h1, h2⟩ := more_ok h
   cases l with
   | nil => rename_i hdp; cases hdp
   | cons z l => have := blk_took h1; exact ⟨by omega, by rw [List.length_cons]; omega⟩
  ·injection h with h1 h2; exact ⟨by omega, by omega⟩
end B10
section
variable {w : World} {g : Nat} {t : TypeId} {a b c d e f h : Value}
end
end Go.Proofs.YtmdgpejedbkkdaaGreatDoor
namespace Go.Proofs.YtmdgpejedbkkdaaGreatDoor
section
open Go.RowKit Go.Sort
open Nw N8 Q6 F9 B10 Go.ChangeShapes Go.WideShapes
def ParL (P : Nd × Nat × Int) (w : World) (e : Ending) (w' : World) : Prop := ∃ (k : Int) (t : ByteArray) (a : Option Addr) (n c : Nat) (A : Option Addr) (m q : Nat),
 e = .returned (.tuple #[.agg #[.int .i64 k, .string t, .slice a n c, .slice A m q], .int .i64 (P.2.1 : Int), .int .i64 P.2.2]) ∧ NdW w' P.1 (.int .i64 k) (.string t) (.slice a n c) (.slice A m q) ∧ Below w.heap.size w w'
theorem parl_ret {w W : World} {P : Nd × Nat × Int} {d : Nd} {kk : Int} {t : ByteArray} {a : Option Addr} {nn c : Nat} {A : Option Addr} {m q : Nat} (hb : Below w.heap.size w W)
  (nd : NdC (fun b => b ≠ w.heap.size ∧ b < W.heap.size) W d (.int .i64 kk) (.string t) (.slice a nn c) (.slice A m q)) {no E : Int} (hP : P.1 = d ∧ (P.2.1 : Int) = no ∧ P.2.2 = E) :
  ParL P w (.returned (.tuple #[.agg #[.int .i64 kk, .string t, .slice a nn c, .slice A m q], .int .i64 no, .int .i64 E])) (p4 W w.heap.size (.int .i64 kk) (.string t) (.slice a nn c) (.slice A m q)) := by
 obtain ⟨h1, h2, h3⟩ := hP
 subst h2; subst h3
 refine ⟨_, _, _, _, _, _, _, _, rfl, ?_, below_p4 hb (Nat.le_refl _) _ _ _ _⟩
 rw [h1]
 exact NdC.keep (fun b hb => ⟨by rw [p4_size]; exact hb.2, p4_oth b hb.1 _ _ _ _⟩) _ nd
end
end Go.Proofs.YtmdgpejedbkkdaaGreatDoor
namespace Go.Proofs.YtmdgpejedbkkdaaGreatDoor
open Go.RowKit Go.Sort
open Nw N8 Q6 F9 B10
namespace B10
end B10
theorem al_below (w : World) (o : Obj) : Below w.heap.size w (w.alloc o) := (Below.refl _ _).alloc (Nat.le_refl _) _
def BX (W : World) (g : Nat) (d : Nd) (c0 c1 c2 c3 : Value) : Prop := Row4 W g 25 c0 c1 c2 c3 ∧ NdW W d c0 c1 c2 c3
theorem BX.go {W W' : World} {g : Nat} {d : Nd} {c0 c1 c2 c3 : Value} (h : BX W g d c0 c1 c2 c3) (hb : Below W.heap.size W W') : BX W' g d c0 c1 c2 c3 := ⟨h.1.below hb h.1.lt, h.2.below hb⟩
theorem bx_make {w : World} {d : Nd} {c0 c1 c2 c3 : Value} (h : NdW w d c0 c1 c2 c3) : BX (w.alloc (.cells #[c0, c1, c2, c3] 25)) w.heap.size d c0 c1 c2 c3 :=
 ⟨Row4.make w _ _ _ _ _, h.below (al_below w _)⟩
theorem RSame_of {d : Nd} {c0 c1 c2 c3 u0 u1 u2 u3 : Value} {w : World} (h : NdW w d c0 c1 c2 c3) (g : NdW w d u0 u1 u2 u3) :
  Calls Tryz.prog 14 #[.agg #[c0, c1, c2, c3], .agg #[u0, u1, u2, u3]] w fun x w' => x = .returned (.bool true) ∧ Below w.heap.size w w' :=
 RSameT_any (cntT d) d d (Nat.le_refl _) true (sameT_refl _ d (Nat.le_refl _)) c0 c1 c2 c3 u0 u1 u2 u3 w h g
theorem b_next {w w1 w2 : World} (h : Below w.heap.size w w1) (g : Below w1.heap.size w1 w2) : Below w.heap.size w w2 := h.trans (g.mono h.size)
end Go.Proofs.YtmdgpejedbkkdaaGreatDoor
namespace Go.Proofs.YtmdgpejedbkkdaaGreatDoor
section
open Go.RowKit Go.Sort
open Q6
theorem Cut_in (no ind : Int) (k m : Nat) (t q : ByteArray) (w : World) (ht : t.size ≤ 100000) (hi0 : 0 ≤ ind) (hi1 : ind ≤ 100000) (hk : k ≤ t.size) (hm : cutN t.data.toList k = m) (hq : t.data.toList.drop m = q.data.toList) :
  Calls Tryz.prog 103 #[.agg #[.int .i64 no, .int .i64 ind, .string t], .int .i64 (k : Int)] w fun e w' => e = .returned (.agg #[.int .i64 no, .int .i64 (ind + (m : Int)), .string q]) ∧ Below w.heap.size w w' := by
 have hmt : m ≤ t.size := by rw [← hm, ← len_eq]; exact cutN_le (by rw [len_eq]; exact hk)
 have hqs : q.size + m = t.size := by
  have h1 : q.data.toList.length = q.size := len_eq q
  rw [← hq, List.length_drop, len_eq] at h1
  omega
 have HT := hid (fun w0 => trimL_any (t.extract k t.size) q w0 (by rw [from_data, List.drop_drop, ← hq, ← hm]; rfl))
 have kz : (k : Int) ≤ (t.size : Int) := by omega
 have k0 : ¬ (t.size : Int) < (k : Int) := by omega
 have e1 : ind + (t.size : Int) - (q.size : Int) = ind + (m : Int) := by omega
 have e2 : IntKind.i64.wrap (ind + (m : Int)) = ind + (m : Int) := IntWalk.i64_in _ (by omega)
 have e3 : IntKind.i64.wrap (ind + (t.size : Int)) = ind + (t.size : Int) := IntWalk.i64_in _ (by omega)
 clear hm hq hqs
 go_enter Tryz.func103, Tryz.ntmps103
 go_wp2_with (go_at_call 67; refine (HT.out _).mono ?_; rintro e w' ⟨rfl, rfl⟩)
 exact bodyPost_ret (v := .agg #[.int .i64 no, .int .i64 (ind + (m : Int)), .string q]) (by simp [results, Tryz.results103, go_sem]) rfl ⟨rfl, by first | exact ((Below.refl _ _).alloc (Nat.le_refl _) _).alloc (by simp) _ | exact (((((Below.refl _ _).alloc (Nat.le_refl _) _).alloc (by simp) _).setCell (by simp) _).setCell (by simp) _).setCell (by simp) _⟩
end
end Go.Proofs.YtmdgpejedbkkdaaGreatDoor
