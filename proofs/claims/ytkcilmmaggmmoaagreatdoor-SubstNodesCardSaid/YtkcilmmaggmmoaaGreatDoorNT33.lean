/- TmpGive, SubEnv, RefEnv4, RefSub3, RefTmp8, LawSub1 -/
import Derived.Lib.Bytealg
import Derived.Lib.Hide
import Derived.Lib.IndexMore
import Derived.Lib.Replace
import Derived.Test.YtkcilmmaggmmoaaGreatDoorNT12
import Derived.Test.YtkcilmmaggmmoaaGreatDoorNT23
import Derived.Test.YtkcilmmaggmmoaaGreatDoorNT27
import Derived.Test.YtkcilmmaggmmoaaGreatDoorNT29
import Derived.Test.YtkcilmmaggmmoaaGreatDoorNT32
import Derived.Test.YtkcilmmaggmmoaaGreatDoorNT5
import Derived.Test.YtkcilmmaggmmoaaGreatDoorNT6
set_option linter.unusedVariables false
set_option linter.unusedSimpArgs false
set_option maxRecDepth 100000
set_option maxHeartbeats 16000000
open Go.Lib (hid)
namespace Go.Proofs.YtkcilmmaggmmoaaGreatDoor
namespace Nw
end Nw
namespace Q6
end Q6
namespace S14
end S14
namespace T13
end T13
namespace V12
end V12
end Go.Proofs.YtkcilmmaggmmoaaGreatDoor
namespace Go.Proofs.YtkcilmmaggmmoaaGreatDoor
section
open Go.RowKit Go.Sort
open Nw T13
def GivesP (R : PR) (w : World) (e : Ending) (w' : World) : Prop := match R with
 | .ok ps _ => ∃ v, e = .returned (.tuple #[v, .int .i64 0]) ∧ PtW w' v ps ∧ Below w.heap.size w w'
 | .err er => ∃ v, e = .returned (.tuple #[v, .int .i64 er]) ∧ PtW w' v [] ∧ Below w.heap.size w w'
end
end Go.Proofs.YtkcilmmaggmmoaaGreatDoor
namespace Go.Proofs.YtkcilmmaggmmoaaGreatDoor
namespace S14
open Nw V12
def EnvS (x : List KV) : Prop := EnvOk x ∧ x.length ≤ 64 ∧ ∀ p ∈ x, p.1.length ≤ 100 ∧ p.2.length ≤ 100
theorem last_mem : ∀ {l : List KV} {k v : L8}, lastV l k = some v → (k, v) ∈ l
 | [], k, v, h => by cases h
 | p :: l, k, v, h => by
  unfold lastV at h
  cases hl : lastV l k with
  | some u =>
   rw [hl] at h
   simp only [] at h
   cases h
   exact List.mem_cons_of_mem _ (last_mem hl)
  | none =>
   rw [hl] at h
   simp only [] at h
   split at h
   ·rename_i hk
    cases h
    rw [← hk]
    exact List.mem_cons_self
   ·cases h
theorem EnvS.val {x : List KV} (h : EnvS x) {k v : L8} (hv : lastV x k = some v) : v.length ≤ 100 := (h.2.2 _ (last_mem hv)).2
theorem of_s {l : List KV} (h : ∀ p ∈ l, p.1.length ≤ 100 ∧ p.2.length ≤ 100) : EnvS (ofV l) := by
 refine ⟨of_ok l, (of_len l).1, fun p hp => ?_⟩
 have hp : p ∈ gath l := List.mem_of_mem_take hp
 unfold gath at hp
 obtain ⟨k, hk, rfl⟩ := List.mem_map.1 hp
 obtain ⟨hv, q, hq, hqk⟩ := mem_keys.1 hk
 refine ⟨by rw [← hqk]; exact (h q hq).1, ?_⟩
 cases hl : lastV l k with
 | none => exact Nat.zero_le _
 | some v => exact (h _ (last_mem hl)).2
def exT1 : L8 := [36, 123, 65, 125, 45, 36, 123, 66, 58, 45, 36, 65, 125]
def exT2 : L8 := [36, 123, 66, 63, 103, 111, 110, 101, 125]
def exE : List KV := [([65], [120])]
def exP1 : List T13.Pt := [.mk [65] [] 1 [], .mk [] [45] 0 [], .mk [66] [] 2 [.mk [65] [] 1 []]]
def exP2 : List T13.Pt := [.mk [66] [] 5 [.mk [] [103, 111, 110, 101] 0 []]]
theorem ex_prs1 : T13.prsT exT1 = .ok exP1 [] := by kernel_rfl
theorem ex_prs2 : T13.prsT exT2 = .ok exP2 [] := by kernel_rfl
theorem ex_A : lastV exE [65] = some [120] := rfl
theorem ex_B : lastV exE [66] = none := by
 show (if ([65] : L8) = [66] then some ([120] : L8) else none) = none
 rw [if_neg (by decide)]
theorem ex_ok : sayX (lastV exE) exT1 = .ok [120, 45, 120] := by
 unfold sayX
 rw [ex_prs1]
 show sayL (lastV exE) [] exP1 = _
 unfold exP1
 have p1 : sayP (lastV exE) (.mk [65] [] 1 []) = .ok [120] := by
  rw [sayP, if_neg (by decide), if_neg (by rw [ex_A]; simp), if_neg (by simp), if_neg (by decide), ex_A]
  rfl
 have p2 : sayP (lastV exE) (.mk [] [45] 0 []) = .ok [45] := by rw [sayP, if_pos rfl]
 have p3 : sayP (lastV exE) (.mk [66] [] 2 [.mk [65] [] 1 []]) = .ok [120] := by
  rw [sayP, if_neg (by decide), if_pos (.inl ⟨rfl, by rw [ex_B]; simp⟩), sayL, p1]
  simp only []
  rw [if_neg (by decide), sayL]
  rfl
 rw [sayL, p1]
 simp only []
 rw [if_neg (by decide), sayL, p2]
 simp only []
 rw [if_neg (by decide), sayL, p3]
 simp only []
 rw [if_neg (by decide), sayL]
 rfl
theorem ex_bad : ∃ k y, sayX (lastV exE) exT2 = .err 4 k y := by
 refine ⟨[66], T13.txtL [.mk [] [103, 111, 110, 101] 0 []], ?_⟩
 unfold sayX
 rw [ex_prs2]
 show sayL (lastV exE) [] exP2 = _
 unfold exP2
 rw [sayL, sayP, if_neg (by decide), if_neg (by rw [ex_B]; simp), if_pos (.inr ⟨rfl, ex_B⟩)]
end S14
end Go.Proofs.YtkcilmmaggmmoaaGreatDoor
namespace Go.Proofs.YtkcilmmaggmmoaaGreatDoor
section
open Go.RowKit Go.Sort
open Nw V12 Q6
theorem ROf_any (v : Value) (l : List KV) (w : World) (h : VR w v l) (hok : KVk l) (hbig : l.length ≤ 100000) :
  Calls Tryz.prog 7 #[v] w fun e w' => ∃ v', e = .returned v' ∧ VR w' v' (ofV l) ∧ Below w.heap.size w w' := by
 have HG := hid (RGathered_own v l w h hok hbig)
 have HL := hid (gath_len l)
 clear h hok
 go_enter Tryz.func7, Tryz.ntmps7
 go_wp2_with (go_at_call 17; refine HG.out.mono ?_; rintro e w1 ⟨v1, rfl, o1, b1⟩)
 obtain ⟨h1, _⟩ := vr_of_owns o1
 have H1 := hid h1
 have HB := hid b1
 obtain ⟨a1, cap1, rfl, k1, k2, k3⟩ := h1
 clear o1 b1 k3
 have hll : (gath l).length ≤ 100000 := by have := HL.out; omega
 obtain ⟨m, hm⟩ : ∃ m, m = (gath l).length := ⟨_, rfl⟩
 have HM := hid hm
 rw [← hm] at k1 hll ⊢
 unfold maxLen at k2
 by_cases hlt : 64 < m
 ·have hz : (64 : Int) < (m : Int) := by omega
  have hc : 64 ≤ cap1 := by omega
  have hcz : (64 : Int) ≤ (cap1 : Int) := by omega
  clear hm hlt
  go_wp2
  go_ret
  obtain ⟨a, cap, e, h2⟩ := H1.out.take 64 (by have := HM.out; omega)
  injection e with e1 e2 e3
  subst e1; subst e3
  exact ⟨_, rfl, h2, HB.out⟩
 ·have hz : ¬ (64 : Int) < (m : Int) := by omega
  clear hm
  go_wp2
  go_ret
  refine ⟨_, rfl, ?_, HB.out⟩
  have e : ofV l = gath l := List.take_of_length_le (by have := HM.out; omega)
  rw [e]
  have := H1.out
  rw [← HM.out] at this
  exact this
end
section
open Go.RowKit Go.Sort
open Nw T13 V12 S14
def sayT (E : Env) (s : L8) : SR := match prsT s with
 | .err e => .err e [] []
 | .ok ps _ => sayL E [] ps
theorem RText14 (HParse : ∀ (s : ByteArray) (W : World), s.size ≤ 100000 → Calls Tryz.prog 26 #[.string s] W (GivesP (prsT s.data.toList) W))
  (l : List KV) (hE : ∀ n v, lastV l n = some v → v.length ≤ 1000000) (s : ByteArray) (hs : s.size ≤ 100000) (v : Value) (w : World) (hv : VR w v l) :
  Calls Tryz.prog 20 #[.string s, v] w (SayW (sayT (lastV l) s.data.toList) w) := by
 have HPA := fun W => HParse s W hs
 obtain ⟨W0, hW0⟩ : ∃ W0, W0 = w.alloc (.cells #[.string ⟨#[]⟩, .string ⟨#[]⟩, .string ⟨#[]⟩, .int .i64 0] 47) := ⟨_, rfl⟩
 have hb0 : Below w.heap.size w W0 := by rw [hW0]; exact (Below.refl _ _).alloc (Nat.le_refl _) _
 have HB0 := hid hb0
 have HX0 : Hid (BoxS W0 w.heap.size (.string ⟨#[]⟩) (.string ⟨#[]⟩) (.string ⟨#[]⟩) (.int .i64 0)) := hid (by rw [hW0]; exact boxS_new _ _ _ _ _)
 unfold sayT
 cases hR : prsT s.data.toList with
 | err er =>
  rw [hR] at HPA
  have hne : er ≠ 0 := prsT_err hR
  have hne1 : (er != 0) = true := bne_iff_ne.2 hne
  have hne2 : (er == 0) = false := beq_eq_false_iff_ne.2 hne
  have HC := hid (HPA W0)
  clear HPA hR hne hv hE HParse
  go_enter Tryz.func20, Tryz.ntmps20
  go_wp2_with (go_at_call 26; rw [← hW0]; refine HC.out.mono ?_; rintro e w1 ⟨v1, rfl, -, b1⟩; obtain ⟨v0, v1', v2, v3⟩ := (HX0.out.go b1).cells; obtain ⟨u0', u1', u2', u3'⟩ := (HX0.out.go b1).froz; have HB1 := hid (HB0.out.trans (b1.mono HB0.out.size)); clear b1)
  exact bodyPost_ret (v := .agg #[.string ⟨#[]⟩, .string ⟨#[]⟩, .string ⟨#[]⟩, .int .i64 er]) (by simp [results, Tryz.results20, go_sem, v0, v1', v2, v3]) rfl ⟨rfl, (((HB1.out.setCell (Nat.le_refl _) _).setCell (Nat.le_refl _) _).setCell (Nat.le_refl _) _).setCell (Nat.le_refl _) _⟩
 | ok ps r =>
  rw [hR] at HPA
  obtain ⟨hwf, -⟩ := prsT_wf hR
  have hsz := prsT_size hR
  have hcn := cntL_le ps 1 hwf
  rw [show s.data.toList.length = s.size from rfl] at hsz
  have HC := hid (HPA W0)
  have HPP := hid (fun (u : Value) (W : World) (hu : PtW W u ps) (hb : Below w.heap.size w W) => RParts14 l hE 1000000 ps 1 (by omega) (Nat.le_refl _) (by omega) hwf u v W hu (hv.below hb))
  obtain ⟨PS, hPS⟩ : ∃ PS, sayL (lastV l) [] ps = PS := ⟨_, rfl⟩
  show Calls _ _ _ _ (SayW (sayL (lastV l) [] ps) w)
  rw [hPS] at HPP ⊢
  obtain ⟨pa, pb, pc, pd, hpv⟩ := said_shape PS
  have HPV := hid hpv
  clear HPA hR hwf hsz hcn hv hE HParse hPS hpv
  go_enter Tryz.func20, Tryz.ntmps20
  go_wp2_with first
   | (go_at_call 26; rw [← hW0]; refine HC.out.mono ?_; rintro e w1 ⟨x1, rfl, h1, b1⟩; have HX1 := hid (HX0.out.go b1); have HB1 := hid (HB0.out.trans (b1.mono HB0.out.size)); have HV1 := hid h1; clear b1 h1)
   | (go_at_call 36; refine (HPP.out _ _ HV1.out HB1.out).mono ?_; rintro e w2 ⟨he, b2⟩; rw [HPV.out] at he; subst he; obtain ⟨v0, v1', v2, v3⟩ := (HX1.out.go b2).cells; obtain ⟨u0', u1', u2', u3'⟩ := (HX1.out.go b2).froz; have HB2 := hid (HB1.out.trans (b2.mono HB1.out.size)); clear b2)
  exact bodyPost_ret (v := .agg #[.string pa, .string pb, .string pc, .int .i64 pd]) (by simp [results, Tryz.results20, go_sem, v0, v1', v2, v3]) rfl ⟨by rw [HPV.out], (((HB2.out.setCell (Nat.le_refl _) _).setCell (Nat.le_refl _) _).setCell (Nat.le_refl _) _).setCell (Nat.le_refl _) _⟩
end
section
open Go.RowKit Go.Sort
open Nw T13
theorem RParse13_any (s : ByteArray) (w : World) (hs : s.size ≤ 100000) : Calls Tryz.prog 26 #[.string s] w (GivesP (prsT s.data.toList) w) := by
 have h0 := fun W => Rparts_any (s.size + 1) s 0 1 W (by omega) (Nat.zero_le _) hs (Nat.le_refl _) (by omega)
 rw [List.drop_zero, show prsA 1 [] [] s.data.toList = prsT s.data.toList from rfl] at h0
 cases hR : prsT s.data.toList with
 | err er =>
  rw [hR] at h0
  have HC : Hid (∀ W, Calls Tryz.prog 42 #[.string s, .int .i64 0, .int .i64 1] W fun e w' => e = .returned (.tuple #[.slice none 0 0, .int .i64 0, .int .i64 er]) ∧ Below W.heap.size W w') := hid h0
  have hne : er ≠ 0 := prsT_err hR
  have hne1 : (er != 0) = true := bne_iff_ne.2 hne
  have hne2 : (er == 0) = false := beq_eq_false_iff_ne.2 hne
  clear h0 hR hne
  go_enter Tryz.func26, Tryz.ntmps26
  go_wp2_with (go_at_call 42; refine (HC.out _).mono ?_; rintro e w1 ⟨rfl, b1⟩)
  go_ret2
  exact ⟨_, rfl, ptL_nil _ _, b1⟩
 | ok ps r =>
  rw [hR] at h0
  obtain ⟨z, hz⟩ : ∃ z, s.size - r.length = z := ⟨_, rfl⟩
  have HC : Hid (∀ W, Calls Tryz.prog 42 #[.string s, .int .i64 0, .int .i64 1] W fun e w' => ∃ v, e = .returned (.tuple #[v, .int .i64 (z : Int), .int .i64 0]) ∧ PtL (Since W w') w' v ps ∧ Below W.heap.size W w') := hid (by subst hz; exact h0)
  clear h0 hR hz
  go_enter Tryz.func26, Tryz.ntmps26
  go_wp2_with (go_at_call 42; refine (HC.out _).mono ?_; rintro e w1 ⟨v1, rfl, h1, b1⟩; have H1 := hid h1; clear h1)
  go_ret2
  exact ⟨v1, rfl, H1.out.more fun b hb => hb.2, b1⟩
end
section
open Go.RowKit Go.Sort
open Nw V12 S14
theorem vr_one (w : World) (a b : L8) : VR (w.alloc (.cells #[.string (ba a), .string (ba b)] 41)) (.slice (some ⟨w.heap.size, 0, none⟩) 1 1) [(a, b)] :=
 (vr_of_owns (base := w.heap.size) (n := 1) (e := 41) (l := [(a, b)]) ⟨rfl, .inr ⟨w.heap.size, 1, #[.string (ba a), .string (ba b)], rfl, Nat.le_refl _, Array.getElem?_push_size (xs := w.heap), Nat.le_refl _, by unfold maxLen; decide, rfl, rfl⟩⟩).1
theorem exE_s : EnvS exE := ⟨⟨by unfold Asc exE; simp, fun p hp => by
  have : p = ([65], [120]) := List.mem_singleton.1 hp
  rw [this]; decide⟩, by decide, fun p hp => by
  have : p = ([65], [120]) := List.mem_singleton.1 hp
  rw [this]; exact ⟨by decide, by decide⟩⟩
theorem int_self (x : Int) : (x == x) = true := beq_self_eq_true _
section
variable (Pw : World → Prop) (hPw : ∀ w w', Pw w → Below w.heap.size w w' → Pw w')
variable (HText : ∀ (s : ByteArray) (v : Value) (x : List KV) (W : World), Pw W → s.size ≤ 100000 → VR W v x → EnvS x → Calls Tryz.prog 16 #[.string s, v] W fun e w' => e = .returned (SayO (sayX (lastV x) s.data.toList)) ∧ Below W.heap.size W w')
include hPw HText
theorem Awake14 (w : World) (hw : Pw w) : Calls Tryz.prog 6 #[] w fun e w' => e = .returned (.bool true) ∧ Below w.heap.size w w' := by
 have hb0 : Below w.heap.size w (w.alloc (.cells #[.string ⟨#[65]⟩, .string ⟨#[120]⟩] 41)) := (Below.refl _ _).alloc (Nat.le_refl _) _
 have hv0 : VR (w.alloc (.cells #[.string ⟨#[65]⟩, .string ⟨#[120]⟩] 41)) (.slice (some ⟨w.heap.size, 0, none⟩) 1 1) exE := vr_one w [65] [120]
 have HA : Hid (∀ W v, Pw W → VR W v exE → Calls Tryz.prog 16 #[.string ⟨#[36, 123, 65, 125, 45, 36, 123, 66, 58, 45, 36, 65, 125]⟩, v] W fun e w' => e = .returned (.tuple #[.string ⟨#[120, 45, 120]⟩, .int .i64 0]) ∧ Below W.heap.size W w') := hid (fun W v h hv => by
  refine (HText ⟨exT1.toArray⟩ v exE W h (by decide) hv exE_s).mono ?_
  rintro e w' ⟨he, hb⟩
  rw [show (⟨exT1.toArray⟩ : ByteArray).data.toList = exT1 from rfl, ex_ok] at he
  exact ⟨he, hb⟩)
 have HB : Hid (∀ W v, Pw W → VR W v exE → Calls Tryz.prog 16 #[.string ⟨#[36, 123, 66, 63, 103, 111, 110, 101, 125]⟩, v] W fun e w' => e = .returned (.tuple #[.string ⟨#[]⟩, .int .i64 4]) ∧ Below W.heap.size W w') := hid (fun W v h hv => by
  obtain ⟨k, y, hbad⟩ := ex_bad
  refine (HText ⟨exT2.toArray⟩ v exE W h (by decide) hv exE_s).mono ?_
  rintro e w' ⟨he, hb⟩
  rw [show (⟨exT2.toArray⟩ : ByteArray).data.toList = exT2 from rfl, hbad] at he
  exact ⟨he, hb⟩)
 have HW := hid (hPw _ _ hw hb0)
 have HP := hid hPw
 have HV := hid hv0
 have HB0 := hid hb0
 clear HText hw hPw hv0 hb0
 go_enter Tryz.func6, Tryz.ntmps6
 go_wp2_with first
  | (go_at_call 16; (with_reducible refine (HA.out _ _ HW.out HV.out).mono ?_); rintro e w1 ⟨rfl, b1⟩; have HV1 := hid (HV.out.below b1); have HW1 := hid (HP.out _ _ HW.out b1); have B1 := hid (HB0.out.trans (b1.mono HB0.out.size)); clear b1)
  | (go_at_call 16; (with_reducible refine (HB.out _ _ HW1.out HV1.out).mono ?_); rintro e w2 ⟨rfl, b2⟩; have B2 := hid (B1.out.trans (b2.mono B1.out.size)); clear b2)
 go_ret
 exact ⟨by simp, B2.out⟩
variable (HParse : ∀ (s : ByteArray) (W : World), Pw W → s.size ≤ 100000 → Calls Tryz.prog 22 #[.string s] W (GivesP (T13.prsT s.data.toList) W))
variable (HRef : ∀ (s : ByteArray) (v : Value) (x : List KV) (W : World), s.size ≤ 100000 → VR W v x → EnvS x → Calls Tryz.prog 20 #[.string s, v] W (SayW (sayX (lastV x) s.data.toList) W))
variable (HExpand : ∀ (p v : Value) (ps : List T13.Pt) (x : List KV) (W : World), Pw W → PtW W p ps → T13.WfL 1 ps → (T13.txtL ps).length ≤ 100000 → VR W v x → EnvS x → Calls Tryz.prog 30 #[p, v] W fun e w' => e = .returned (SayO (sayL (lastV x) [] ps)) ∧ Below W.heap.size W w')
include HParse HRef HExpand
end
end
end Go.Proofs.YtkcilmmaggmmoaaGreatDoor
