/- LinCon, LinParse -/
import Derived.ScopeJumps
import Derived.Test.YtecglpocmhkkiaaGreatDoorPT12
import Derived.Test.YtecglpocmhkkiaaGreatDoorPT15
import Derived.Test.YtecglpocmhkkiaaGreatDoorPT8
import Derived.WalkMore
set_option linter.unusedVariables false
set_option linter.unusedSimpArgs false
set_option maxRecDepth 100000
set_option maxHeartbeats 16000000
open Go.Lib (hid)
namespace Go.Proofs.YtecglpocmhkkiaaGreatDoor
section
open Go.RowKit Go.Sort
open Q6
theorem wp_scope_from {P : Program} {a : Act} {w : World} {Q : Exit → Act → World → Prop} {r1 T : Code} (l : Nat) (J : Act → World → Prop) (μ : Act → World → Nat)
  (h1 : findLabel r1 l = none)
  (first : r1.wp P (fun e a'' w'' => e = .normal ∧ J a'' w'') a w)
  (pass : ∀ a w, J a w → ∀ K : Act → World → Prop, (∀ a' w', J a' w' → μ a' w' < μ a w → K a' w') → T.wp P (Exit.jump l K Q) a w) :
  (Code.scope (.seq r1 (.seq (.label l) T))).wp P Q a w := by
 refine wp_scope_jumps (rest := .seq .skip T) l J μ ?_ ?_ ?_
 ·simp [findLabel, h1]
 ·refine wp_seq (wp_mono first ?_)
  rintro e a'' w'' ⟨rfl, hJ⟩
  exact wp_seq (wp_label (pass a'' w'' hJ J fun a' w' h _ => h))
 ·intro a w hJ
  exact wp_seq (wp_skip (pass a w hJ _ fun a' w' h1 h2 => ⟨h1, h2⟩))
def conX (o : Option Nat) : Int := match o with | some e => (e : Int) | none => 0
def conB (o : Option Nat) : Bool := o.isSome
theorem ret_ib {a b : Int} {c d : Bool} (h : a = b) (g : c = d) : Ending.returned (.tuple #[.int .i64 a, .bool c]) = .returned (.tuple #[.int .i64 b, .bool d]) := by rw [h, g]
def CJ (s : ByteArray) (w0 : World) (R : Option Nat) (a : Act) (w : World) : Prop :=
 ∃ (k : Nat) (u1 u2 u3 u5 u6 u7 u8 u9 u10 u11 u12 u13 u14 u15 u16 u17 u18 u19 u20 u21 u22 u23 u24 u25 u26 u27 u28 u29 u30 u31 u32 u33 u34 u35 u36 u37 u38 u39 u40 u41 u42 : Value), k ≤ s.size ∧ a = { tmps := #[.string s, u1, u2, u3, .int .i64 (k : Int), u5, u6, u7, u8, u9, u10, u11, u12, u13, u14, u15, u16, u17, u18, u19, u20, u21, u22, u23, u24, u25, u26, u27, u28, u29, u30, u31, u32, u33, u34, u35, u36, u37, u38, u39, u40, u41, u42], defers := [] } ∧ Below w0.heap.size w0 w ∧ Hid (conE s.data.toList k = R)
def Cm (n : Nat) (a : Act) (_ : World) : Nat := n - (intOf (a.tmps.getD 4 undef)).toNat
theorem begK_none {l : List UInt8} {k : Nat} {c : UInt8} (hc : l.getD k 0 = c) (h1 : c ≠ 35) (h2 : c ≠ 34) (h3 : c ≠ 39) : begK l k = 0 := by
 unfold begK
 rw [hc, if_neg (fun h => h1 h.1), if_neg (fun h => h.1.elim h2 h3)]
theorem begK_mark {l : List UInt8} {k : Nat} (hc : l.getD k 0 = 35) : begK l k = if prevB l k = 32 then 2 else 0 := by
 unfold begK
 by_cases h : prevB l k = 32
 ·rw [if_pos ⟨hc, h⟩, if_pos h]
 ·rw [if_neg (fun e => h e.2), if_neg h, hc, if_neg (fun e => e.1.elim (by decide) (by decide))]
theorem begK_quote {l : List UInt8} {k : Nat} (hc : l.getD k 0 = 34 ∨ l.getD k 0 = 39) : begK l k = if opens (prevB l k) = true then 1 else 0 := by
 unfold begK
 have hn : l.getD k 0 ≠ 35 := by
  rcases hc with h | h
  ·rw [h]; decide
  ·rw [h]; decide
 rw [if_neg (fun e => hn e.1)]
 by_cases h : opens (prevB l k) = true
 ·rw [if_pos ⟨hc, h⟩, if_pos h]
 ·rw [if_neg (fun e => h e.2), if_neg h]
theorem contentEnd_any (s : ByteArray) (w : World) (hs : s.size ≤ 100000) (x : Int) (b : Bool) (hx : conX (conE s.data.toList 0) = x) (hb : conB (conE s.data.toList 0) = b) :
  Calls Tryz.prog 54 #[.string s] w fun e w' => e = .returned (.tuple #[.int .i64 x, .bool b]) ∧ Below w.heap.size w w' := by
 obtain ⟨R, hR⟩ : ∃ R, conE s.data.toList 0 = R := ⟨_, rfl⟩
 rw [hR] at hx hb
 have HOUT : Hid (conX R = x ∧ conB R = b) := hid ⟨hx, hb⟩
 have HR0 := hid hR
 clear hx hb hR
 have HLEN := hid (len_eq s)
 obtain ⟨n, hn⟩ : ∃ n, s.size = n := ⟨_, rfl⟩
 have hsn : n ≤ 100000 := by omega
 go_enter Tryz.func54, Tryz.ntmps54
 go_wp2
 refine wp_scope_from 0 (CJ s w R) (Cm n) rfl ?first ?pass
 case first =>
  go_wp2
  exact ⟨0, _, _, _, _, _, _, _, _, _, _, _, _, _, _, _, _, _, _, _, _, _, _, _, _, _, _, _, _, _, _, _, _, _, _, _, _, _, _, _, _, _, Nat.zero_le _, rfl, Below.refl _ _, HR0⟩
 case pass =>
  intro a wr hJ K hK
  obtain ⟨k0, u1, u2, u3, u5, u6, u7, u8, u9, u10, u11, u12, u13, u14, u15, u16, u17, u18, u19, u20, u21, u22, u23, u24, u25, u26, u27, u28, u29, u30, u31, u32, u33, u34, u35, u36, u37, u38, u39, u40, u41, u42, hk0, rfl, hbel, HRk⟩ := hJ
  have HB := hid hbel
  have HK := hid hK
  clear hbel hK HR0
  rw [hn] at hk0
  go_wp2
  go_loop [5] (fun i => ∃ k : Nat, k0 ≤ k ∧ k ≤ n ∧ i = .int .i64 (k : Int) ∧ Hid (conE s.data.toList k = R)) (fun i => n - (intOf i).toNat)
  case atStart => exact ⟨k0, Nat.le_refl _, hk0, rfl, HRk⟩
  case round =>
   clear HRk
   obtain ⟨k, hk0k, hk, rfl, HR⟩ := hrel
   by_cases hlt : k < n
   ·have hks : k < s.size := by omega
    have hkl : k < s.data.toList.length := by rw [HLEN.out]; exact hks
    have hskz : (k : Int) < (n : Int) := by omega
    have hg : s.data.toList.getD k 0 = s[k]'hks := getd s k hks
    obtain ⟨c, hc⟩ : ∃ c, s[k]'hks = c := ⟨_, rfl⟩
    rw [hc] at hg
    have HG := hid hg
    have HKL := hid hkl
    clear hg hkl
    have kw : IntKind.i64.wrap ((k : Int) + 1) = (k : Int) + 1 := IntWalk.i64_in _ (by omega)
    by_cases h35 : c = 35
    ·have m35 : ((c.toNat : Int) == 35) = true := by rw [isC_beq 35 c 35 rfl, isC_iff.2 h35]
     have HBK := hid (begK_mark (HG.out.trans h35))
     by_cases hp : prevB s.data.toList k = 32
     ·have HC := hid (fun w0 => behind_space s k w0 hs hks true (decide_eq_true hp))
      have HE := hid (HR.out.symm.trans (conE_mark HKL.out (HBK.out.trans (if_pos hp))))
      clear h35 hp
      go_wp2_with (go_at_call 85; refine (HC.out _).mono ?_; rintro e w' ⟨rfl, rfl⟩)
      simp only [Exit.jump]
      go_ret2
      exact ⟨ret_ib (by rw [← HOUT.out.1, HE.out]; rfl) (by rw [← HOUT.out.2, HE.out]; rfl), HB.out⟩
     ·have HC := hid (fun w0 => behind_space s k w0 hs hks false (decide_eq_false hp))
      have HN := hid ((conE_next HKL.out (HBK.out.trans (if_neg hp))).symm.trans HR.out)
      clear h35 hp
      go_wp2_with (go_at_call 85; refine (HC.out _).mono ?_; rintro e w' ⟨rfl, rfl⟩)
      go_round
      case rel => exact ⟨k + 1, by omega, by omega, by go_num, HN⟩
      case measure => simp [intOf]; omega
    have m35 : ((c.toNat : Int) == 35) = false := by rw [isC_beq 35 c 35 rfl]; exact Bool.eq_false_iff.2 (fun e => h35 (isC_iff.1 e))
    by_cases hq : c = 34 ∨ c = 39
    ·have hmm : (((c.toNat : Int) == 34) = true) ∨ (((c.toNat : Int) == 34) = false ∧ ((c.toNat : Int) == 39) = true) := by
      rcases hq with h | h
      ·left; rw [isC_beq 34 c 34 rfl, isC_iff.2 h]
      ·right; refine ⟨?_, by rw [isC_beq 39 c 39 rfl, isC_iff.2 h]⟩
       rw [isC_beq 34 c 34 rfl]; exact Bool.eq_false_iff.2 (fun e => by have := isC_iff.1 e; rw [h] at this; exact absurd this (by decide))
     have HBK := hid (begK_quote (l := s.data.toList) (k := k) (by rw [HG.out]; exact hq))
     rcases Bool.eq_false_or_eq_true (opens (prevB s.data.toList k)) with hp | hp
     ·have HC := hid (fun w0 => behind_opens s k w0 hs hks true hp)
      have hbk : begK s.data.toList k = 1 := HBK.out.trans (if_pos hp)
      rcases scanE_cases s.data.toList k with hse | ⟨v, m, hse, hv, hm, hkm, hml⟩
      ·have HE := hid (HR.out.symm.trans (conE_bad HKL.out hbk hse))
       obtain ⟨q, hqq⟩ : ∃ q : ByteArray, scanV s.data.toList (k : Int) = q.data.toList := ⟨⟨(scanV s.data.toList (k : Int)).toArray⟩, by simp⟩
       obtain ⟨X, hX⟩ : ∃ X, scanN s.data.toList (k : Int) = X := ⟨_, rfl⟩
       obtain ⟨Y, hY⟩ : ∃ Y, scanE s.data.toList (k : Int) = Y := ⟨_, rfl⟩
       have HSC := hid (fun w0 => Scan_any s (k : Int) w0 (by omega) (by omega) (by omega) q X Y hqq hX hY)
       have y0 : (Y != 0) = true := bne_iff_ne.2 (by rw [← hY]; exact hse)
       clear h35 hp hq hse hqq hX hY hbk
       rcases hmm with m34 | ⟨m34, m39⟩
       all_goals
        go_wp2_with fail
        refine (HC.out _).mono ?_
        rintro e w' ⟨rfl, rfl⟩
        go_wp2_with fail
        refine (HSC.out _).mono ?_
        rintro e w2 ⟨rfl, hb2⟩
        go_wp2
        simp only [Exit.jump]
        go_ret2
        exact ⟨ret_ib (by rw [← HOUT.out.1, HE.out]; rfl) (by rw [← HOUT.out.2, HE.out]; rfl), HB.out.trans (hb2.mono HB.out.size)⟩
      ·have HN := hid ((conE_quote HKL.out hbk hse hm hkm).symm.trans HR.out)
       obtain ⟨q, hqq⟩ : ∃ q : ByteArray, scanV s.data.toList (k : Int) = q.data.toList := ⟨⟨(scanV s.data.toList (k : Int)).toArray⟩, by simp⟩
       have HSC := hid (fun w0 => Scan_any s (k : Int) w0 (by omega) (by omega) (by omega) q (m : Int) 0 hqq hm hse)
       have hmn : m ≤ n := by rw [HLEN.out, hn] at hml; exact hml
       clear h35 hp hq hse hqq hm hbk hv hml
       rcases hmm with m34 | ⟨m34, m39⟩
       all_goals
        go_wp2_with fail
        refine (HC.out _).mono ?_
        rintro e w' ⟨rfl, rfl⟩
        go_wp2_with fail
        refine (HSC.out _).mono ?_
        rintro e w2 ⟨rfl, hb2⟩
        go_wp2
        go_step3
        refine ⟨rfl, HK.out _ _ ⟨m, _, _, _, _, _, _, _, _, _, _, _, _, _, _, _, _, _, _, _, _, _, _, _, _, _, _, _, _, _, _, _, _, _, _, _, _, _, _, _, _, _, by rw [hn]; exact hmn, rfl, HB.out.trans (hb2.mono HB.out.size), HN⟩ ?_⟩
        simp [Cm, intOf]; omega
     ·have HC := hid (fun w0 => behind_opens s k w0 hs hks false hp)
      have HN := hid ((conE_next HKL.out (HBK.out.trans (if_neg (by rw [hp]; decide)))).symm.trans HR.out)
      clear h35 hp hq
      rcases hmm with m34 | ⟨m34, m39⟩
      all_goals
       go_wp2_with (go_at_call 85; refine (HC.out _).mono ?_; rintro e w' ⟨rfl, rfl⟩)
       go_round
       case rel => exact ⟨k + 1, by omega, by omega, by go_num, HN⟩
       case measure => simp [intOf]; omega
    ·have m34 : ((c.toNat : Int) == 34) = false := by rw [isC_beq 34 c 34 rfl]; exact Bool.eq_false_iff.2 (fun e => hq (.inl (isC_iff.1 e)))
     have m39 : ((c.toNat : Int) == 39) = false := by rw [isC_beq 39 c 39 rfl]; exact Bool.eq_false_iff.2 (fun e => hq (.inr (isC_iff.1 e)))
     have HN := hid ((conE_next HKL.out (begK_none HG.out h35 (fun e => hq (.inl e)) (fun e => hq (.inr e)))).symm.trans HR.out)
     clear h35 hq
     go_wp2
     go_round
     case rel => exact ⟨k + 1, by omega, by omega, by go_num, HN⟩
     case measure => simp [intOf]; omega
   ·obtain rfl : k = n := by omega
    have HE := hid (HR.out.symm.trans (conE_out (by rw [HLEN.out, hn]; exact Nat.le_refl _)))
    go_wp2
    simp only [Exit.jump]
    go_ret2
    exact ⟨ret_ib (by rw [← HOUT.out.1, HE.out, HLEN.out, hn]; rfl) (by rw [← HOUT.out.2, HE.out]; rfl), HB.out⟩
end
section
open Go.RowKit Go.Sort
open Q6
theorem sglB_good (l : List UInt8) : sglB l = goodL l := by
 unfold sglB
 rw [Bool.eq_iff_iff, every_iff]
 unfold goodL
 rw [List.all_eq_true]
 constructor
 ·intro h c hc
  obtain ⟨j, hj, rfl⟩ := List.mem_iff_getElem.1 hc
  have := h j hj
  unfold okI goodF at this
  rw [List.getD_eq_getElem?_getD, List.getElem?_eq_getElem hj] at this
  exact this
 ·intro h i hi
  unfold okI goodF
  rw [List.getD_eq_getElem?_getD, List.getElem?_eq_getElem hi]
  exact h _ (List.getElem_mem hi)
theorem lprint_any (s : ByteArray) (b : Bool) (w : World) (hw : SomeMax w) (hs : s.size ≤ 100000) (h : goodL s.data.toList = b) :
  Calls Tryz.prog 56 #[.string s] w fun e w' => e = .returned (.bool b) ∧ Below w.heap.size w w' := by
 obtain ⟨q, hq⟩ : ∃ q : ByteArray, sglV s.data.toList = q.data.toList := ⟨⟨(sglV s.data.toList).toArray⟩, by simp⟩
 have HS := hid (fun w0 h0 => Single_any s w0 h0 (by omega) q b hq ((sglB_good _).trans h))
 have HW := hid hw
 clear hq h hw
 go_enter Tryz.func56, Tryz.ntmps56
 go_wp2_with (go_at_call 89; refine (HS.out _ HW.out).mono ?_; rintro e w' ⟨rfl, hb⟩)
 go_ret
 exact ⟨rfl, hb⟩
theorem trimL_any (s q : ByteArray) (w : World) (h : s.data.toList.drop (indN s.data.toList) = q.data.toList) :
  Calls Tryz.prog 53 #[.string s, .string ⟨#[32]⟩] w fun e w' => e = .returned (.string q) ∧ w = w' := by
 refine (Tryz.strings_TrimLeft_one s 32 (by decide) w).mono ?_
 rintro e w' ⟨rfl, rfl⟩
 refine ⟨ret_s (bytes_ext ?_), rfl⟩
 rw [← h, ← trimL_drop]
theorem trimR_any (s q : ByteArray) (l : List UInt8) (e : Nat) (w : World) (hs : s.size ≤ 100000) (hl : s.data.toList = l.take e) (he : e ≤ l.length) (h : l.take (trimN l e) = q.data.toList) :
  Calls Tryz.prog 55 #[.string s, .string ⟨#[32]⟩] w fun e w' => e = .returned (.string q) ∧ w = w' := by
 refine (Tryz.strings_TrimRight_one s 32 (by decide) w (by omega)).mono ?_
 rintro e w' ⟨rfl, rfl⟩
 refine ⟨ret_s (bytes_ext ?_), rfl⟩
 rw [← h, ← trimR_take he, ← hl]
theorem bcell {W w1 : World} (hb : Below W.heap.size W w1) : (∀ b o, b < W.heap.size → w1.cell? ⟨b, o, none⟩ = W.cell? ⟨b, o, none⟩) ∧ (∀ b o, b < W.heap.size → w1.frozen? ⟨b, o, none⟩ = W.frozen? ⟨b, o, none⟩) :=
 ⟨fun b o h => hb.cell (p := ⟨b, o, none⟩) h, fun b o h => hb.frozen (p := ⟨b, o, none⟩) h⟩
theorem upto_data (s : ByteArray) (e : Nat) : (s.extract 0 e).data.toList = s.data.toList.take e := by rw [Lib.extract_upto]
def Row3 (w : World) (g : Nat) (t : TypeId) (a b c : Value) : Prop := w.heap[g]? = some (.cells #[a, b, c] t (0, 0))
section
variable {w w' : World} {g B : Nat} {t : TypeId} {a b c : Value}
theorem Row3.make (w : World) (t : TypeId) (a b c : Value) : Row3 (w.alloc (.cells #[a, b, c] t)) w.heap.size t a b c := row_new w _
theorem Row3.below (h : Row3 w g t a b c) (hb : Below B w w') (hg : g < B) : Row3 w' g t a b c := (hb.block g hg).trans h
theorem Row3.lt (h : Row3 w g t a b c) : g < w.heap.size := by
 rcases Nat.lt_or_ge g w.heap.size with hl | hl
 ·exact hl
 ·unfold Row3 at h; rw [Array.getElem?_eq_none hl] at h; cases h
theorem Row3.alloc (h : Row3 w g t a b c) (o : Obj) : Row3 (w.alloc o) g t a b c := (Below.heap_alloc w o g h.lt).trans h
theorem Row3.cells (h : Row3 w g t a b c) : w.cell? ⟨g, 0, none⟩ = some a ∧ w.cell? ⟨g, 1, none⟩ = some b ∧ w.cell? ⟨g, 2, none⟩ = some c :=
 ⟨cell_of_row w g 0 _ t (0, 0) h, cell_of_row w g 1 _ t (0, 0) h, cell_of_row w g 2 _ t (0, 0) h⟩
theorem Row3.frozen (h : Row3 w g t a b c) : w.frozen? ⟨g, 0, none⟩ = false ∧ w.frozen? ⟨g, 1, none⟩ = false ∧ w.frozen? ⟨g, 2, none⟩ = false := by
 unfold Row3 at h
 simp [World.frozen?, h]
end
theorem parse_none (s : ByteArray) (no : Int) (w : World) (hw : SomeMax w) (hs : s.size ≤ 100000) (h : conE (s.data.toList.drop (indN s.data.toList)) 0 = none) :
  Calls Tryz.prog 33 #[.string s, .int .i64 no] w fun e w' => e = .returned (.tuple #[.agg #[.int .i64 0, .int .i64 0, .string ⟨#[]⟩], .bool false]) ∧ Below w.heap.size w w' := by
 obtain ⟨q, hq⟩ : ∃ q : ByteArray, s.data.toList.drop (indN s.data.toList) = q.data.toList := ⟨⟨(s.data.toList.drop (indN s.data.toList)).toArray⟩, by simp⟩
 have hqs : q.size ≤ 100000 := by
  have h1 : q.data.toList.length = q.size := len_eq q
  rw [← hq, List.length_drop, len_eq] at h1
  omega
 have HT := hid (fun w0 => trimL_any s q w0 hq)
 rw [hq] at h
 have HC := hid (fun w0 => contentEnd_any q w0 hqs 0 false (by rw [h]; rfl) (by rw [h]; rfl))
 clear hq h
 go_enter Tryz.func33, Tryz.ntmps33
 go_wp2_with (first | (go_at_call 53; refine (HT.out _).mono ?_; rintro e w' ⟨rfl, rfl⟩) | (go_at_call 54; refine (HC.out _).mono ?_; rintro e w1 ⟨rfl, hb⟩; obtain ⟨hc, hf⟩ := bcell hb))
 exact bodyPost_ret (v := .tuple #[.agg #[.int .i64 0, .int .i64 0, .string ⟨#[]⟩], .bool false]) (by simp [results, Tryz.results33, go_sem, hc]) rfl ⟨rfl, (((((Below.refl _ _).alloc (Nat.le_refl _) _).trans (hb.mono (by simp))).setCell (by simp) _).setCell (by simp) _).setCell (by simp) _⟩
theorem parse_bad (s : ByteArray) (no : Int) (w : World) (hw : SomeMax w) (hs : s.size ≤ 100000) (e i : Nat) (hi : indN s.data.toList = i) (h : conE (s.data.toList.drop (indN s.data.toList)) 0 = some e)
  (t : ByteArray) (ht : (s.data.toList.drop (indN s.data.toList)).take (trimN (s.data.toList.drop (indN s.data.toList)) e) = t.data.toList) (hg : goodL t.data.toList = false) :
  Calls Tryz.prog 33 #[.string s, .int .i64 no] w fun e w' => e = .returned (.tuple #[.agg #[.int .i64 0, .int .i64 0, .string ⟨#[]⟩], .bool false]) ∧ Below w.heap.size w w' := by
 obtain ⟨q, hq⟩ : ∃ q : ByteArray, s.data.toList.drop (indN s.data.toList) = q.data.toList := ⟨⟨(s.data.toList.drop (indN s.data.toList)).toArray⟩, by simp⟩
 have hql : q.data.toList.length = q.size := len_eq q
 have hqs : q.size ≤ 100000 := by
  have h1 := hql
  rw [← hq, List.length_drop, len_eq] at h1
  omega
 have HT := hid (fun w0 => trimL_any s q w0 hq)
 have e1 : (s.size : Int) - (q.size : Int) = (i : Int) := by
  have h1 := hql
  have h2 := indN_le s.data.toList
  rw [← hq, List.length_drop, len_eq, hi] at h1
  rw [len_eq, hi] at h2
  omega
 have e2 : IntKind.i64.wrap (i : Int) = (i : Int) := by
  have h2 := indN_le s.data.toList
  rw [len_eq, hi] at h2
  exact IntWalk.i64_in _ (by omega)
 rw [hq] at h ht
 have hel : e ≤ q.size := by have := (conE_ge _ q.data.toList 0 e (Nat.le_refl _) (Nat.zero_le _) h).2; omega
 have helz : (e : Int) ≤ (q.size : Int) := by omega
 have hex : (q.extract 0 e).size ≤ 100000 := by rw [ByteArray.size_extract]; omega
 have hts : t.size ≤ 100000 := by
  have h1 : t.data.toList.length = t.size := len_eq t
  have h2 := trimN_le q.data.toList e
  rw [← ht, List.length_take] at h1
  omega
 have HC := hid (fun w0 => contentEnd_any q w0 hqs e true (by rw [h]; rfl) (by rw [h]; rfl))
 have HR := hid (fun w0 => trimR_any (q.extract 0 e) t q.data.toList e w0 hex (upto_data q e) (by omega) ht)
 have HP := hid (fun w0 hw0 => lprint_any t false w0 hw0 hts hg)
 have HW := hid hw
 clear hq h hi hql ht hg hw hex
 go_enter Tryz.func33, Tryz.ntmps33
 go_wp2_with (first | (go_at_call 53; refine (HT.out _).mono ?_; rintro e w' ⟨rfl, rfl⟩) | (go_at_call 54; refine (HC.out _).mono ?_; rintro e w1 ⟨rfl, hbc⟩) | (go_at_call 55; refine (HR.out _).mono ?_; rintro e w' ⟨rfl, rfl⟩))
 have hb1 : Below w.heap.size w w1 := ((Below.refl _ _).alloc (Nat.le_refl _) _).trans (hbc.mono (by simp))
 have hz1 : w.heap.size + 1 ≤ w1.heap.size := by have := hbc.size; simpa using this
 have hb2 := hid (hb1.alloc hb1.size (.cells #[.int .i64 no, .int .i64 (i : Int), .string t] 44))
 refine (HP.out _ (HW.out.keep hb2.out)).mono ?_
 rintro e w3 ⟨rfl, hb⟩
 have hb3 := hid (hb2.out.trans (hb.mono (by have := hb1.size; simp; omega)))
 clear hb1
 have q0 := (((Row3.make w 44 (.int .i64 0) (.int .i64 0) (.string ⟨#[]⟩)).below hbc (by simp)).alloc (.cells #[.int .i64 no, .int .i64 (i : Int), .string t] 44)).below hb (by simp; omega)
 have q1 := (Row3.make w1 44 (.int .i64 no) (.int .i64 (i : Int)) (.string t)).below hb (by simp)
 obtain ⟨q0a, q0b, q0c⟩ := q0.cells
 obtain ⟨q0d, q0e, q0f⟩ := q0.frozen
 obtain ⟨q1a, q1b, q1c⟩ := q1.cells
 have z3 := q1.lt
 clear q0 q1 hb hbc
 go_wp2
 exact bodyPost_ret (v := .tuple #[.agg #[.int .i64 0, .int .i64 0, .string ⟨#[]⟩], .bool false]) (by simp [results, Tryz.results33, go_sem, q0a, q0b, q0c]) rfl ⟨rfl, ((hb3.out.setCell (Nat.le_refl _) _).setCell (Nat.le_refl _) _).setCell (Nat.le_refl _) _⟩
theorem parse_mark (s : ByteArray) (no : Int) (w : World) (hw : SomeMax w) (hs : s.size ≤ 100000) (e i : Nat) (hi : indN s.data.toList = i) (h : conE (s.data.toList.drop (indN s.data.toList)) 0 = some e)
  (t : ByteArray) (ht : (s.data.toList.drop (indN s.data.toList)).take (trimN (s.data.toList.drop (indN s.data.toList)) e) = t.data.toList) (hg : goodL t.data.toList = true) (i0 : i = 0) (hm : marker t.data.toList = true) :
  Calls Tryz.prog 33 #[.string s, .int .i64 no] w fun e w' => e = .returned (.tuple #[.agg #[.int .i64 0, .int .i64 0, .string ⟨#[]⟩], .bool false]) ∧ Below w.heap.size w w' := by
 obtain ⟨q, hq⟩ : ∃ q : ByteArray, s.data.toList.drop (indN s.data.toList) = q.data.toList := ⟨⟨(s.data.toList.drop (indN s.data.toList)).toArray⟩, by simp⟩
 have hql : q.data.toList.length = q.size := len_eq q
 have hqs : q.size ≤ 100000 := by
  have h1 := hql
  rw [← hq, List.length_drop, len_eq] at h1
  omega
 have HT := hid (fun w0 => trimL_any s q w0 hq)
 have e1 : (s.size : Int) - (q.size : Int) = (i : Int) := by
  have h1 := hql
  have h2 := indN_le s.data.toList
  rw [← hq, List.length_drop, len_eq, hi] at h1
  rw [len_eq, hi] at h2
  omega
 have e2 : IntKind.i64.wrap (i : Int) = (i : Int) := by
  have h2 := indN_le s.data.toList
  rw [len_eq, hi] at h2
  exact IntWalk.i64_in _ (by omega)
 rw [hq] at h ht
 have hel : e ≤ q.size := by have := (conE_ge _ q.data.toList 0 e (Nat.le_refl _) (Nat.zero_le _) h).2; omega
 have helz : (e : Int) ≤ (q.size : Int) := by omega
 have hex : (q.extract 0 e).size ≤ 100000 := by rw [ByteArray.size_extract]; omega
 have hts : t.size ≤ 100000 := by
  have h1 : t.data.toList.length = t.size := len_eq t
  have h2 := trimN_le q.data.toList e
  rw [← ht, List.length_take] at h1
  omega
 have HC := hid (fun w0 => contentEnd_any q w0 hqs e true (by rw [h]; rfl) (by rw [h]; rfl))
 have HR := hid (fun w0 => trimR_any (q.extract 0 e) t q.data.toList e w0 hex (upto_data q e) (by omega) ht)
 have HP := hid (fun w0 hw0 => lprint_any t true w0 hw0 hts hg)
 have HW := hid hw
 have HM := hid (fun w0 => marker_any t true w0 hm)
 clear hm
 have iz : ((i : Int) == 0) = true := by rw [i0]; rfl
 clear i0
 clear hq h hi hql ht hg hw hex
 go_enter Tryz.func33, Tryz.ntmps33
 go_wp2_with (first | (go_at_call 53; refine (HT.out _).mono ?_; rintro e w' ⟨rfl, rfl⟩) | (go_at_call 54; refine (HC.out _).mono ?_; rintro e w1 ⟨rfl, hbc⟩) | (go_at_call 55; refine (HR.out _).mono ?_; rintro e w' ⟨rfl, rfl⟩))
 have hb1 : Below w.heap.size w w1 := ((Below.refl _ _).alloc (Nat.le_refl _) _).trans (hbc.mono (by simp))
 have hz1 : w.heap.size + 1 ≤ w1.heap.size := by have := hbc.size; simpa using this
 have hb2 := hid (hb1.alloc hb1.size (.cells #[.int .i64 no, .int .i64 (i : Int), .string t] 44))
 refine (HP.out _ (HW.out.keep hb2.out)).mono ?_
 rintro e w3 ⟨rfl, hb⟩
 have hb3 := hid (hb2.out.trans (hb.mono (by have := hb1.size; simp; omega)))
 clear hb1
 have q0 := (((Row3.make w 44 (.int .i64 0) (.int .i64 0) (.string ⟨#[]⟩)).below hbc (by simp)).alloc (.cells #[.int .i64 no, .int .i64 (i : Int), .string t] 44)).below hb (by simp; omega)
 have q1 := (Row3.make w1 44 (.int .i64 no) (.int .i64 (i : Int)) (.string t)).below hb (by simp)
 obtain ⟨q0a, q0b, q0c⟩ := q0.cells
 obtain ⟨q0d, q0e, q0f⟩ := q0.frozen
 obtain ⟨q1a, q1b, q1c⟩ := q1.cells
 have z3 := q1.lt
 clear q0 q1 hb hbc
 go_wp2_with (go_at_call 57; refine (HM.out _).mono ?_; rintro e w' ⟨rfl, rfl⟩)
 exact bodyPost_ret (v := .tuple #[.agg #[.int .i64 0, .int .i64 0, .string ⟨#[]⟩], .bool false]) (by simp [results, Tryz.results33, go_sem, q0a, q0b, q0c]) rfl ⟨rfl, ((hb3.out.setCell (Nat.le_refl _) _).setCell (Nat.le_refl _) _).setCell (Nat.le_refl _) _⟩
theorem parse_flat (s : ByteArray) (no : Int) (w : World) (hw : SomeMax w) (hs : s.size ≤ 100000) (e i : Nat) (hi : indN s.data.toList = i) (h : conE (s.data.toList.drop (indN s.data.toList)) 0 = some e)
  (t : ByteArray) (ht : (s.data.toList.drop (indN s.data.toList)).take (trimN (s.data.toList.drop (indN s.data.toList)) e) = t.data.toList) (hg : goodL t.data.toList = true) (i0 : i = 0) (hm : marker t.data.toList = false) :
  Calls Tryz.prog 33 #[.string s, .int .i64 no] w fun e w' => e = .returned (.tuple #[.agg #[.int .i64 no, .int .i64 (i : Int), .string t], .bool true]) ∧ Below w.heap.size w w' := by
 obtain ⟨q, hq⟩ : ∃ q : ByteArray, s.data.toList.drop (indN s.data.toList) = q.data.toList := ⟨⟨(s.data.toList.drop (indN s.data.toList)).toArray⟩, by simp⟩
 have hql : q.data.toList.length = q.size := len_eq q
 have hqs : q.size ≤ 100000 := by
  have h1 := hql
  rw [← hq, List.length_drop, len_eq] at h1
  omega
 have HT := hid (fun w0 => trimL_any s q w0 hq)
 have e1 : (s.size : Int) - (q.size : Int) = (i : Int) := by
  have h1 := hql
  have h2 := indN_le s.data.toList
  rw [← hq, List.length_drop, len_eq, hi] at h1
  rw [len_eq, hi] at h2
  omega
 have e2 : IntKind.i64.wrap (i : Int) = (i : Int) := by
  have h2 := indN_le s.data.toList
  rw [len_eq, hi] at h2
  exact IntWalk.i64_in _ (by omega)
 rw [hq] at h ht
 have hel : e ≤ q.size := by have := (conE_ge _ q.data.toList 0 e (Nat.le_refl _) (Nat.zero_le _) h).2; omega
 have helz : (e : Int) ≤ (q.size : Int) := by omega
 have hex : (q.extract 0 e).size ≤ 100000 := by rw [ByteArray.size_extract]; omega
 have hts : t.size ≤ 100000 := by
  have h1 : t.data.toList.length = t.size := len_eq t
  have h2 := trimN_le q.data.toList e
  rw [← ht, List.length_take] at h1
  omega
 have HC := hid (fun w0 => contentEnd_any q w0 hqs e true (by rw [h]; rfl) (by rw [h]; rfl))
 have HR := hid (fun w0 => trimR_any (q.extract 0 e) t q.data.toList e w0 hex (upto_data q e) (by omega) ht)
 have HP := hid (fun w0 hw0 => lprint_any t true w0 hw0 hts hg)
 have HW := hid hw
 have HM := hid (fun w0 => marker_any t false w0 hm)
 clear hm
 have iz : ((i : Int) == 0) = true := by rw [i0]; rfl
 clear i0
 clear hq h hi hql ht hg hw hex
 go_enter Tryz.func33, Tryz.ntmps33
 go_wp2_with (first | (go_at_call 53; refine (HT.out _).mono ?_; rintro e w' ⟨rfl, rfl⟩) | (go_at_call 54; refine (HC.out _).mono ?_; rintro e w1 ⟨rfl, hbc⟩) | (go_at_call 55; refine (HR.out _).mono ?_; rintro e w' ⟨rfl, rfl⟩))
 have hb1 : Below w.heap.size w w1 := ((Below.refl _ _).alloc (Nat.le_refl _) _).trans (hbc.mono (by simp))
 have hz1 : w.heap.size + 1 ≤ w1.heap.size := by have := hbc.size; simpa using this
 have hb2 := hid (hb1.alloc hb1.size (.cells #[.int .i64 no, .int .i64 (i : Int), .string t] 44))
 refine (HP.out _ (HW.out.keep hb2.out)).mono ?_
 rintro e w3 ⟨rfl, hb⟩
 have hb3 := hid (hb2.out.trans (hb.mono (by have := hb1.size; simp; omega)))
 clear hb1
 have q0 := (((Row3.make w 44 (.int .i64 0) (.int .i64 0) (.string ⟨#[]⟩)).below hbc (by simp)).alloc (.cells #[.int .i64 no, .int .i64 (i : Int), .string t] 44)).below hb (by simp; omega)
 have q1 := (Row3.make w1 44 (.int .i64 no) (.int .i64 (i : Int)) (.string t)).below hb (by simp)
 obtain ⟨q0a, q0b, q0c⟩ := q0.cells
 obtain ⟨q0d, q0e, q0f⟩ := q0.frozen
 obtain ⟨q1a, q1b, q1c⟩ := q1.cells
 have z3 := q1.lt
 clear q0 q1 hb hbc
 go_wp2_with (go_at_call 57; refine (HM.out _).mono ?_; rintro e w' ⟨rfl, rfl⟩)
 exact bodyPost_ret (v := .tuple #[.agg #[.int .i64 no, .int .i64 (i : Int), .string t], .bool true]) (by simp [results, Tryz.results33, go_sem, q0a, q0b, q0c]) rfl ⟨rfl, ((hb3.out.setCell (Nat.le_refl _) _).setCell (Nat.le_refl _) _).setCell (Nat.le_refl _) _⟩
theorem parse_deep (s : ByteArray) (no : Int) (w : World) (hw : SomeMax w) (hs : s.size ≤ 100000) (e i : Nat) (hi : indN s.data.toList = i) (h : conE (s.data.toList.drop (indN s.data.toList)) 0 = some e)
  (t : ByteArray) (ht : (s.data.toList.drop (indN s.data.toList)).take (trimN (s.data.toList.drop (indN s.data.toList)) e) = t.data.toList) (hg : goodL t.data.toList = true) (i0 : i ≠ 0) :
  Calls Tryz.prog 33 #[.string s, .int .i64 no] w fun e w' => e = .returned (.tuple #[.agg #[.int .i64 no, .int .i64 (i : Int), .string t], .bool true]) ∧ Below w.heap.size w w' := by
 obtain ⟨q, hq⟩ : ∃ q : ByteArray, s.data.toList.drop (indN s.data.toList) = q.data.toList := ⟨⟨(s.data.toList.drop (indN s.data.toList)).toArray⟩, by simp⟩
 have hql : q.data.toList.length = q.size := len_eq q
 have hqs : q.size ≤ 100000 := by
  have h1 := hql
  rw [← hq, List.length_drop, len_eq] at h1
  omega
 have HT := hid (fun w0 => trimL_any s q w0 hq)
 have e1 : (s.size : Int) - (q.size : Int) = (i : Int) := by
  have h1 := hql
  have h2 := indN_le s.data.toList
  rw [← hq, List.length_drop, len_eq, hi] at h1
  rw [len_eq, hi] at h2
  omega
 have e2 : IntKind.i64.wrap (i : Int) = (i : Int) := by
  have h2 := indN_le s.data.toList
  rw [len_eq, hi] at h2
  exact IntWalk.i64_in _ (by omega)
 rw [hq] at h ht
 have hel : e ≤ q.size := by have := (conE_ge _ q.data.toList 0 e (Nat.le_refl _) (Nat.zero_le _) h).2; omega
 have helz : (e : Int) ≤ (q.size : Int) := by omega
 have hex : (q.extract 0 e).size ≤ 100000 := by rw [ByteArray.size_extract]; omega
 have hts : t.size ≤ 100000 := by
  have h1 : t.data.toList.length = t.size := len_eq t
  have h2 := trimN_le q.data.toList e
  rw [← ht, List.length_take] at h1
  omega
 have HC := hid (fun w0 => contentEnd_any q w0 hqs e true (by rw [h]; rfl) (by rw [h]; rfl))
 have HR := hid (fun w0 => trimR_any (q.extract 0 e) t q.data.toList e w0 hex (upto_data q e) (by omega) ht)
 have HP := hid (fun w0 hw0 => lprint_any t true w0 hw0 hts hg)
 have HW := hid hw
 have iz : ((i : Int) == 0) = false := beq_eq_false_iff_ne.2 (by omega)
 have iz2 : ¬ i = 0 := i0
 clear i0
 clear hq h hi hql ht hg hw hex
 go_enter Tryz.func33, Tryz.ntmps33
 go_wp2_with (first | (go_at_call 53; refine (HT.out _).mono ?_; rintro e w' ⟨rfl, rfl⟩) | (go_at_call 54; refine (HC.out _).mono ?_; rintro e w1 ⟨rfl, hbc⟩) | (go_at_call 55; refine (HR.out _).mono ?_; rintro e w' ⟨rfl, rfl⟩))
 have hb1 : Below w.heap.size w w1 := ((Below.refl _ _).alloc (Nat.le_refl _) _).trans (hbc.mono (by simp))
 have hz1 : w.heap.size + 1 ≤ w1.heap.size := by have := hbc.size; simpa using this
 have hb2 := hid (hb1.alloc hb1.size (.cells #[.int .i64 no, .int .i64 (i : Int), .string t] 44))
 refine (HP.out _ (HW.out.keep hb2.out)).mono ?_
 rintro e w3 ⟨rfl, hb⟩
 have hb3 := hid (hb2.out.trans (hb.mono (by have := hb1.size; simp; omega)))
 clear hb1
 have q0 := (((Row3.make w 44 (.int .i64 0) (.int .i64 0) (.string ⟨#[]⟩)).below hbc (by simp)).alloc (.cells #[.int .i64 no, .int .i64 (i : Int), .string t] 44)).below hb (by simp; omega)
 have q1 := (Row3.make w1 44 (.int .i64 no) (.int .i64 (i : Int)) (.string t)).below hb (by simp)
 obtain ⟨q0a, q0b, q0c⟩ := q0.cells
 obtain ⟨q0d, q0e, q0f⟩ := q0.frozen
 obtain ⟨q1a, q1b, q1c⟩ := q1.cells
 have z3 := q1.lt
 clear q0 q1 hb hbc
 go_wp2
 exact bodyPost_ret (v := .tuple #[.agg #[.int .i64 no, .int .i64 (i : Int), .string t], .bool true]) (by simp [results, Tryz.results33, go_sem, q0a, q0b, q0c]) rfl ⟨rfl, ((hb3.out.setCell (Nat.le_refl _) _).setCell (Nat.le_refl _) _).setCell (Nat.le_refl _) _⟩
end
end Go.Proofs.YtecglpocmhkkiaaGreatDoor
