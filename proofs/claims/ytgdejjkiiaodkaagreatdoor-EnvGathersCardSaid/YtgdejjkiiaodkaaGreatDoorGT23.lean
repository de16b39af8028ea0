/- RefEnv4, EnvPar, RefEnv5, RefEnv6, RefEnv8, RefEnv9 -/
import Derived.Lib.TrimByte
import Derived.Test.YtgdejjkiiaodkaaGreatDoorGT12
import Derived.Test.YtgdejjkiiaodkaaGreatDoorGT13
import Derived.Test.YtgdejjkiiaodkaaGreatDoorGT21
import Derived.Test.YtgdejjkiiaodkaaGreatDoorGT22
import Derived.Test.YtgdejjkiiaodkaaGreatDoorGT3
import Derived.Test.YtgdejjkiiaodkaaGreatDoorGT4
set_option linter.unusedVariables false
set_option linter.unusedSimpArgs false
set_option maxRecDepth 100000
set_option maxHeartbeats 16000000
open Go.Lib (hid)
namespace Go.Proofs.YtgdejjkiiaodkaaGreatDoor
section
open Go.RowKit Go.Sort
open Nw V12 Q6
theorem ROf_any (v : Value) (l : List KV) (w : World) (h : VR w v l) (hok : KVk l) (hbig : l.length ≤ 100000) :
  Calls Tryz.prog 8 #[v] w fun e w' => ∃ v', e = .returned v' ∧ VR w' v' (ofV l) ∧ Below w.heap.size w w' := by
 have HG := hid (RGathered_own v l w h hok hbig)
 have HL := hid (gath_len l)
 clear h hok
 go_enter Tryz.func8, Tryz.ntmps8
 go_wp2_with (go_at_call 18; refine HG.out.mono ?_; rintro e w1 ⟨v1, rfl, o1, b1⟩)
 obtain ⟨h1, _⟩ := vr_of_owns o1
 have H1 := hid h1
 have HB := hid b1
 obtain ⟨a1, cap1, rfl, k1, k2, k3⟩ := h1
 clear o1 b1 k3
 have hll : (gath l).length ≤ 100000 := by have := HL.out; omega
 obtain ⟨m, hm⟩ : ∃ m, m = (gath l).length := ⟨_, rfl⟩
 have HM := hid hm
 rw [← hm] at k1 hll ⊢
 unfold maxLen at k2
 by_cases hlt : 64 < m
 ·have hz : (64 : Int) < (m : Int) := by omega
  have hc : 64 ≤ cap1 := by omega
  have hcz : (64 : Int) ≤ (cap1 : Int) := by omega
  clear hm hlt
  go_wp2
  go_ret
  obtain ⟨a, cap, e, h2⟩ := H1.out.take 64 (by have := HM.out; omega)
  injection e with e1 e2 e3
  subst e1; subst e3
  exact ⟨_, rfl, h2, HB.out⟩
 ·have hz : ¬ (64 : Int) < (m : Int) := by omega
  clear hm
  go_wp2
  go_ret
  refine ⟨_, rfl, ?_, HB.out⟩
  have e : ofV l = gath l := List.take_of_length_le (by have := HM.out; omega)
  rw [e]
  have := H1.out
  rw [← HM.out] at this
  exact this
end
end Go.Proofs.YtgdejjkiiaodkaaGreatDoor
namespace Go.Proofs.YtgdejjkiiaodkaaGreatDoor
namespace V12
open Nw Q6
def dropB (l : L8) : L8 := l.dropWhile fun c => decide (c = 32)
def dropE (l : L8) : L8 := (dropB l.reverse).reverse
def trimS (l : L8) : L8 := dropE (dropB l)
def cutN : L8 → Nat
 | [] => 0
 | c :: t => if c = 32 ∧ t.getD 0 0 = 35 then 0 else cutN t + 1
def befN (b : UInt8) : L8 → Nat
 | [] => 0
 | c :: t => if c = b then 0 else befN b t + 1
def isQ (l : L8) : Bool := decide (l.getD 0 0 = 34 ∨ l.getD 0 0 = 39)
def behindOk (l : L8) (n : Nat) : Bool :=
 let r := dropB (l.drop n)
 decide (r = [] ∨ (r.length < (l.drop n).length ∧ r.getD 0 0 = 35))
def valV (l : L8) : Option L8 :=
 if isQ l then (if scanE l 0 = 0 then (if behindOk l (scanN l 0).toNat then some (scanV l 0) else none) else none)
 else if goodL (trimS (l.take (cutN l))) then some (trimS (l.take (cutN l))) else none
def expL : L8 := [101, 120, 112, 111, 114, 116, 32]
def expS (s : L8) : L8 := if 7 < s.length ∧ s.take 7 = expL then trimS (s.drop 7) else s
def pairV (s : L8) : Option KV :=
 let at_ := befN 61 s
 if at_ = s.length ∨ isV (s.take at_) = false ∨ (at_ + 1 < s.length ∧ s.getD (at_ + 1) 0 = 32) then none
 else (valV (s.drop (at_ + 1))).map fun v => (s.take at_, v)
def lineV (l : L8) : Option (Option KV) :=
 let s := trimS l
 if s = [] ∨ s.getD 0 0 = 35 then some none else (pairV (expS s)).map some
def goV (no : Nat) (acc : List KV) (l : L8) : List KV × Nat × Int :=
 match l with
 | [] => if 64 < (gath acc).length then ([], 0, 9) else (gath acc, 0, 0)
 | c :: t => match lineV ((c :: t).take (befN 10 (c :: t))) with
  | none => ([], no + 1, 3)
  | some o => goV (no + 1) (acc ++ o.toList) ((c :: t).drop (befN 10 (c :: t) + 1))
 termination_by l.length
 decreasing_by
  rw [List.length_drop]
  simp only [List.length_cons]
  omega
def parV (l : L8) : List KV × Nat × Int := if 8192 < l.length then ([], 0, 9) else goV 0 [] l
def rowV (p : KV) : L8 := p.1 ++ 61 :: dblL p.2
def textV (l : List KV) : L8 := (l.map fun p => rowV p ++ [10]).flatten
theorem goV_nil (no : Nat) (acc : List KV) : goV no acc [] = if 64 < (gath acc).length then ([], 0, 9) else (gath acc, 0, 0) := by rw [goV]
theorem goV_bad {no : Nat} {acc : List KV} {l : L8} (h : l ≠ []) (hb : lineV (l.take (befN 10 l)) = none) : goV no acc l = ([], no + 1, 3) := by
 cases l with
 | nil => exact absurd rfl h
 | cons c t => rw [goV, hb]
theorem goV_next {no : Nat} {acc : List KV} {l : L8} {o : Option KV} (h : l ≠ []) (hb : lineV (l.take (befN 10 l)) = some o) : goV no acc l = goV (no + 1) (acc ++ o.toList) (l.drop (befN 10 l + 1)) := by
 cases l with
 | nil => exact absurd rfl h
 | cons c t => rw [goV, hb]
theorem befN_le (b : UInt8) : ∀ l : L8, befN b l ≤ l.length
 | [] => Nat.le_refl _
 | c :: t => by
  unfold befN
  have := befN_le b t
  rw [List.length_cons]
  split <;> omega
theorem dropB_no {l : L8} (h : l.getD 0 0 ≠ 32) : dropB l = l := by
 cases l with
 | nil => rfl
 | cons c t =>
  unfold dropB
  rw [List.dropWhile_cons]
  have hc : c ≠ 32 := h
  rw [decide_eq_false hc]
  rfl
theorem par_long {l : L8} (h : 8192 < l.length) : parV l = ([], 0, 9) := by unfold parV; rw [if_pos h]
end V12
end Go.Proofs.YtgdejjkiiaodkaaGreatDoor
namespace Go.Proofs.YtgdejjkiiaodkaaGreatDoor
section
open Go.RowKit Go.Sort
open Nw V12 Q6
theorem from12 (s : ByteArray) (k : Nat) : (s.extract k s.size).data.toList = s.data.toList.drop k := by rw [Lib.extract_from]
theorem ret_str {a b : ByteArray} (h : a = b) : Ending.returned (.string a) = .returned (.string b) := by rw [h]
theorem arr_of {a b : ByteArray} (h : a.data.toList = b.data.toList) : a = b := by
 cases a; cases b
 simpa using h
end
section
open Go.RowKit Go.Sort
open Nw V12 Q6
theorem toList_arr {l : L8} : (⟨l.toArray⟩ : ByteArray).data.toList = l := by simp
end
section
open Go.RowKit Go.Sort
open Nw V12 Q6
theorem trim_len (l : L8) : (trimS l).length ≤ l.length := by
 unfold trimS dropE dropB
 rw [List.length_reverse]
 refine Nat.le_trans (List.Sublist.length_le (List.dropWhile_sublist _)) ?_
 rw [List.length_reverse]
 exact List.Sublist.length_le (List.dropWhile_sublist _)
theorem bcell12 {W w1 : World} (hb : Below W.heap.size W w1) : (∀ b o, b < W.heap.size → w1.cell? ⟨b, o, none⟩ = W.cell? ⟨b, o, none⟩) ∧ (∀ b o, b < W.heap.size → w1.frozen? ⟨b, o, none⟩ = W.frozen? ⟨b, o, none⟩) :=
 ⟨fun b o h => hb.cell (p := ⟨b, o, none⟩) h, fun b o h => hb.frozen (p := ⟨b, o, none⟩) h⟩
end
section
open Go.RowKit Go.Sort
open Nw V12 Q6
def GivesPar (P : List KV × Nat × Int) (w : World) (e : Ending) (w' : World) : Prop := ∃ v, e = .returned (.tuple #[v, .int .i64 (P.2.1 : Int), .int .i64 P.2.2]) ∧ VR w' v P.1 ∧ Below w.heap.size w w'
theorem pairV_key {s : L8} {p : KV} (h : pairV s = some p) : isV p.1 = true := by
 unfold pairV at h
 simp only [] at h
 split at h
 ·cases h
 ·rename_i hn
  cases hv : valV (s.drop (befN 61 s + 1)) with
  | none => rw [hv] at h; cases h
  | some v =>
   rw [hv] at h
   cases h
   simp only [not_or] at hn
   simpa using hn.2.1
theorem lineV_key {l : L8} {p : KV} (h : lineV l = some (some p)) : isV p.1 = true := by
 unfold lineV at h
 simp only [] at h
 split at h
 ·cases h
 ·cases hp : pairV (expS (trimS l)) with
  | none => rw [hp] at h; cases h
  | some q => rw [hp] at h; cases h; exact pairV_key hp
theorem isV_len {k : L8} (h : isV k = true) : 0 < k.length ∧ k.length ≤ 24 := by
 have h1 : 0 < k.length ∧ k.length ≤ 24 ∧ Nw.good v1 v2 k k.length := of_decide_eq_true h
 exact ⟨h1.1, h1.2.1⟩
theorem KVk.snoc {acc : List KV} {p : KV} (h : KVk acc) (hp : isV p.1 = true) : KVk (acc ++ [p]) := fun q hq => by
 rcases List.mem_append.1 hq with hq | hq
 ·exact h q hq
 ·rcases List.mem_cons.1 hq with rfl | hq
  ·have := (isV_len hp).2; unfold maxLen; omega
  ·cases hq
end
end Go.Proofs.YtgdejjkiiaodkaaGreatDoor
