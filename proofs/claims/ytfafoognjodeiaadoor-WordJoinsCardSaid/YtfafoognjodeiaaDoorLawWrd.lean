/- Chapter 15's laws over the contracts of word.Split, word.Join and word.Bare. -/
import Derived.Test.YtfafoognjodeiaaDoorRefWrd2
import Derived.Test.YtfafoognjodeiaaDoorRefWrd4
import Derived.Test.YtfafoognjodeiaaDoorNamFew
import Derived.Test.YtfafoognjodeiaaDoorWrdMath
import Derived.Lib.OwnBridge
import Derived.Lib.BufferMore
namespace Go.Proofs.YtfafoognjodeiaaDoor
open Go.RowKit Go.Sort
open Nw W15
set_option linter.unusedVariables false
theorem few_costs {l : List L8} (h : fewL l 40 = true) : costs l ≤ 100000 := by
  unfold fewL at h
  rw [Bool.and_eq_true] at h
  have h1 : (l.length : Int) ≤ 40 := of_decide_eq_true h.1
  have key : ∀ l : List L8, (l.all fun x => decide (x.length ≤ 100)) = true → costs l ≤ 403 * l.length := by
    intro l
    induction l with
    | nil => intro _; exact Nat.le_refl _
    | cons x l ih =>
      intro ha
      rw [List.all_cons, Bool.and_eq_true] at ha
      have h2 := ih ha.2
      have h3 : x.length ≤ 100 := of_decide_eq_true ha.1
      have h4 : costs (x :: l) = cost x + costs l := by simp [costs]
      have h5 : cost x ≤ 403 := by unfold cost; omega
      rw [List.length_cons]; omega
  have := key l h.2
  omega
def exA : L8 := [97, 32, 34, 98, 32, 99, 34, 39, 100, 39, 32, 92, 101]
theorem ex_split : errW exA = 0 ∧ wordsW exA = [[97], [98, 32, 99, 100], [101]] := ⟨by kernel_rfl, by kernel_rfl⟩
theorem ex_join : jnL [[105, 116, 39, 115]] = [39, 105, 116, 39, 92, 39, 39, 115, 39] := by kernel_rfl
theorem bare_err {s : L8} (h : errW s ≠ 0) : wordsW s = [] := by
  unfold errW at h
  unfold wordsW
  cases hT : T none s with
  | none => rfl
  | some ws =>
    rw [hT] at h
    simp only [] at h ⊢
    by_cases h3 : 32 < ws.length
    · rw [if_pos h3]
    · rw [if_neg h3] at h; exact absurd rfl h
theorem ok_words {s : L8} (h : errW s = 0) : T none s = some (wordsW s) ∧ (wordsW s).length ≤ 32 := by
  unfold errW at h
  unfold wordsW
  cases hT : T none s with
  | none => rw [hT] at h; exact absurd h (by decide)
  | some ws =>
    rw [hT] at h
    simp only [] at h ⊢
    by_cases h3 : 32 < ws.length
    · rw [if_pos h3] at h; exact absurd h (by decide)
    · rw [if_neg h3]; exact ⟨rfl, by omega⟩
theorem join_words (l : List L8) : errW (jnL l) = (if 32 < l.length then 9 else 0) ∧ wordsW (jnL l) = (if 32 < l.length then [] else l) := by
  have h := T_jn l [] (.inl rfl)
  rw [List.append_nil] at h
  unfold errW wordsW
  rw [h]
  exact ⟨rfl, rfl⟩
theorem again_words {L : List L8} (h : L.length ≤ 32) : errW (9 :: 32 :: (jnL L ++ [32])) = 0 ∧ wordsW (9 :: 32 :: (jnL L ++ [32])) = L := by
  unfold errW wordsW
  rw [T_jn2 L]
  simp only []
  rw [if_neg (by omega), if_neg (by omega)]
  exact ⟨rfl, rfl⟩
theorem rd_lit3 (w : World) (x y z : ByteArray) : Rd (w.alloc (.cells #[.string x, .string y, .string z] 9)) (.slice (some ⟨w.heap.size, 0, none⟩) 3 3) [x.data.toList, y.data.toList, z.data.toList] := by
  refine ⟨_, 3, rfl, Nat.le_refl _, by unfold maxLen; omega, .inr ⟨w.heap.size, 0, rfl, by simp, fun j hj => ?_⟩⟩
  have h := heap_alloc_new w (.cells #[.string x, .string y, .string z] 9)
  match j, hj with
  | 0, _ => exact (cell_of_row _ w.heap.size 0 _ _ (0, 0) h).trans (by simp [ba_of])
  | 1, _ => exact (cell_of_row _ w.heap.size 1 _ _ (0, 0) h).trans (by simp [ba_of])
  | 2, _ => exact (cell_of_row _ w.heap.size 2 _ _ (0, 0) h).trans (by simp [ba_of])
theorem rd_lit1 (w : World) (x : ByteArray) : Rd (w.alloc (.cells #[.string x] 9)) (.slice (some ⟨w.heap.size, 0, none⟩) 1 1) [x.data.toList] := by
  refine ⟨_, 1, rfl, Nat.le_refl _, by unfold maxLen; omega, .inr ⟨w.heap.size, 0, rfl, by simp, fun j hj => ?_⟩⟩
  have h := heap_alloc_new w (.cells #[.string x] 9)
  match j, hj with
  | 0, _ => exact (cell_of_row _ w.heap.size 0 _ _ (0, 0) h).trans (by simp [ba_of])
section
variable (Pw : World → Prop) (hPw : ∀ w w', Pw w → Below w.heap.size w w' → Pw w')
variable (HSplit : ∀ (s : ByteArray) (W : World), Pw W → s.size ≤ 200000 → Calls Tryd.prog 7 #[.string s] W fun e w' => ∃ v, e = .returned (.tuple #[v, .int .i64 (errW s.data.toList)]) ∧ Rd w' v (wordsW s.data.toList) ∧ Below W.heap.size W w')
variable (HJoin : ∀ (v : Value) (l : List L8) (W : World), Pw W → Rd W v l → costs l ≤ 100000 → Calls Tryd.prog 13 #[v] W fun e w' => e = .returned (.string (ba (jnL l))) ∧ Below W.heap.size W w')
include hPw HSplit HJoin
set_option maxRecDepth 100000 in
set_option maxHeartbeats 8000000 in
theorem Awake15 (w : World) (hw : Pw w) : Calls Tryd.prog 6 #[] w fun e w' => e = .returned (.bool true) ∧ Below w.heap.size w w' := by
  have HS := HSplit ⟨#[97, 32, 34, 98, 32, 99, 34, 39, 100, 39, 32, 92, 101]⟩ w hw (by decide)
  rw [show errW (⟨#[97, 32, 34, 98, 32, 99, 34, 39, 100, 39, 32, 92, 101]⟩ : ByteArray).data.toList = 0 from ex_split.1, show wordsW (⟨#[97, 32, 34, 98, 32, 99, 34, 39, 100, 39, 32, 92, 101]⟩ : ByteArray).data.toList = [[97], [98, 32, 99, 100], [101]] from ex_split.2] at HS
  have HSM : Hid (∀ (v : Value) (W : World), Rd W v [[97], [98, 32, 99, 100], [101]] → Calls Tryd.prog 9 #[v, .slice (some ⟨W.heap.size, 0, none⟩) 3 3] (W.alloc (.cells #[.string ⟨#[97]⟩, .string ⟨#[98, 32, 99, 100]⟩, .string ⟨#[101]⟩] 9)) fun e w' => e = .returned (.bool true) ∧ Below W.heap.size W w') := Lib.hid (fun v W h => by
    have hb : Below W.heap.size W (W.alloc (.cells #[.string ⟨#[97]⟩, .string ⟨#[98, 32, 99, 100]⟩, .string ⟨#[101]⟩] 9)) := (Below.refl _ _).alloc (Nat.le_refl _) _
    refine (RSame_any v _ _ _ _ (h.below hb) (rd_lit3 W ⟨#[97]⟩ ⟨#[98, 32, 99, 100]⟩ ⟨#[101]⟩)).mono ?_
    rintro e w' ⟨he, hb'⟩
    exact ⟨by rw [he]; rfl, hb.trans (hb'.mono hb.size)⟩)
  have HJ : Hid (∀ W : World, Pw W → Calls Tryd.prog 13 #[.slice (some ⟨W.heap.size, 0, none⟩) 1 1] (W.alloc (.cells #[.string ⟨#[105, 116, 39, 115]⟩] 9)) fun e w' => e = .returned (.string ⟨#[39, 105, 116, 39, 92, 39, 39, 115, 39]⟩) ∧ Below W.heap.size W w') := Lib.hid (fun W h => by
    have hb : Below W.heap.size W (W.alloc (.cells #[.string ⟨#[105, 116, 39, 115]⟩] 9)) := (Below.refl _ _).alloc (Nat.le_refl _) _
    refine (HJoin _ [[105, 116, 39, 115]] _ (hPw _ _ h hb) (rd_lit1 W ⟨#[105, 116, 39, 115]⟩) (by decide)).mono ?_
    rintro e w' ⟨he, hb'⟩
    exact ⟨by rw [he, ex_join]; rfl, hb.trans (hb'.mono hb.size)⟩)
  have HP := Lib.hid hPw
  have HW := Lib.hid hw
  have heq : ((⟨#[39, 105, 116, 39, 92, 39, 39, 115, 39]⟩ : ByteArray).toList == ByteArray.toList ⟨#[39, 105, 116, 39, 92, 39, 39, 115, 39]⟩) = true := beq_self_eq_true _
  clear HSplit HJoin hPw hw
  go_enter Tryd.func6, Tryd.ntmps6
  go_wp2_with first
    | (go_at_call 7; refine HS.mono ?_; rintro e w1 ⟨v1, rfl, hr, b1⟩; obtain ⟨va, vc, rfl, -⟩ := id hr; have HR1 := Lib.hid hr; have HB1 := Lib.hid b1; have HW1 := Lib.hid (HP.out _ _ HW.out b1); clear hr b1)
    | (go_at_call 9; refine (HSM.out _ _ HR1.out).mono ?_; rintro e w2 ⟨rfl, b2⟩; have HB2 := Lib.hid (HB1.out.trans (b2.mono HB1.out.size)); have HW2 := Lib.hid (HP.out _ _ HW1.out b2); clear b2)
    | (go_at_call 13; refine (HJ.out _ HW2.out).mono ?_; rintro e w3 ⟨rfl, b3⟩; have HB3 := Lib.hid (HB2.out.trans (b3.mono HB2.out.size)); clear b3)
  go_ret
  exact ⟨rfl, HB3.out⟩
variable (HBare : ∀ (s : ByteArray) (W : World), Pw W → s.size ≤ 200000 → Calls Tryd.prog 10 #[.string s] W fun e w' => e = .returned (.bool (bareB s.data.toList)) ∧ Below W.heap.size W w')
include HBare in
set_option maxRecDepth 100000 in
set_option maxHeartbeats 8000000 in
theorem WordSplits_walk (s : ByteArray) (hs : s.size ≤ maxLen) (w : World) (hw : Pw w) : Calls Tryd.prog 3 #[.string s] w fun e w' => e = .returned (.bool true) ∧ Below w.heap.size w w' := by
  have HAW := Lib.hid (fun W hW => Awake15 Pw hPw HSplit HJoin W hW)
  have HP := Lib.hid hPw
  have HW := Lib.hid hw
  unfold maxLen at hs
  by_cases h2 : (2000 : Int) < (s.size : Int)
  · clear HSplit HJoin HBare hPw hw
    go_enter Tryd.func3, Tryd.ntmps3
    go_wp2_with (go_at_call 6; refine (HAW.out _ HW.out).mono ?_; rintro e w2 ⟨rfl, b2⟩)
    go_ret
    exact ⟨rfl, b2⟩
  · have HS := Lib.hid (HSplit s w hw (by omega))
    have HR := Lib.hid (fun W => RSplit_any s W (by omega))
    have HB := Lib.hid (fun W hW => HBare s W hW (by omega))
    have HRB := Lib.hid (fun W => RBare_any s W (by omega))
    have HSM : Hid (∀ (v u : Value) (W : World), Rd W v (wordsW s.data.toList) → Rd W u (wordsW s.data.toList) → Calls Tryd.prog 9 #[v, u] W fun e w' => e = .returned (.bool true) ∧ Below W.heap.size W w') := Lib.hid (fun v u W h k => by
      have := RSame_any v u _ _ W h k
      rw [decide_eq_true rfl] at this
      exact this)
    generalize wordsW s.data.toList = L at *
    generalize errW s.data.toList = E at *
    generalize bareB s.data.toList = B at *
    have hee : (E == E) = true := beq_self_eq_true _
    have hbb : (B == B) = true := beq_self_eq_true _
    clear HSplit HJoin HBare hPw hw
    go_enter Tryd.func3, Tryd.ntmps3
    go_wp2_with first
      | (go_at_call 7; refine HS.out.mono ?_; rintro e w1 ⟨v1, rfl, hr, b1⟩; obtain ⟨va, vc, rfl, -⟩ := id hr; have HR1 := Lib.hid hr; have HB1 := Lib.hid b1; have HW1 := Lib.hid (HP.out _ _ HW.out b1); clear hr b1)
      | (go_at_call 8; refine (HR.out _).mono ?_; rintro e w2 ⟨v2, rfl, hr, b2⟩; obtain ⟨vb, vd, rfl, -⟩ := id hr; have HR2 := Lib.hid hr; have HB2 := Lib.hid (HB1.out.trans (b2.mono HB1.out.size)); have HW2 := Lib.hid (HP.out _ _ HW1.out b2); have HR12 := Lib.hid (HR1.out.below b2); clear hr b2)
      | (go_at_call 9; refine (HSM.out _ _ _ HR12.out HR2.out).mono ?_; rintro e w3 ⟨rfl, b3⟩; have HB3 := Lib.hid (HB2.out.trans (b3.mono HB2.out.size)); have HW3 := Lib.hid (HP.out _ _ HW2.out b3); clear b3)
      | (go_at_call 10; refine (HB.out _ HW3.out).mono ?_; rintro e w4 ⟨rfl, b4⟩; have HB4 := Lib.hid (HB3.out.trans (b4.mono HB3.out.size)); have HW4 := Lib.hid (HP.out _ _ HW3.out b4); clear b4)
      | (go_at_call 11; refine (HRB.out _).mono ?_; rintro e w5 ⟨rfl, rfl⟩)
      | (go_at_call 6; refine (HAW.out _ HW4.out).mono ?_; rintro e w6 ⟨rfl, b6⟩; have HB6 := Lib.hid (HB4.out.trans (b6.mono HB4.out.size)); clear b6)
    go_ret
    exact ⟨rfl, HB6.out⟩
set_option maxRecDepth 100000 in
set_option maxHeartbeats 8000000 in
theorem WordJoins_walk (l : List L8) (v : Value) (w : World) (hw : Pw w) (hl : Rd w v l) : Calls Tryd.prog 4 #[v] w fun e w' => e = .returned (.bool true) ∧ Below w.heap.size w w' := by
  have HAW := Lib.hid (fun W hW => Awake15 Pw hPw HSplit HJoin W hW)
  have HP := Lib.hid hPw
  have HW := Lib.hid hw
  have HF := Lib.hid (Few_any v l 40 w hl (by decide) (by decide))
  cases hf : fewL l 40 with
  | false =>
    rw [hf] at HF
    obtain ⟨va, vc, rfl, -⟩ := id hl
    generalize l.length = n at *
    clear HSplit HJoin hPw hw hf hl
    go_enter Tryd.func4, Tryd.ntmps4
    go_wp2_with first
      | (go_at_call 12; refine HF.out.mono ?_; rintro e w1 ⟨rfl, rfl⟩)
      | (go_at_call 6; refine (HAW.out _ HW.out).mono ?_; rintro e w2 ⟨rfl, b2⟩)
    go_ret
    exact ⟨rfl, b2⟩
  | true =>
    rw [hf] at HF
    have hc := few_costs hf
    have HJ := Lib.hid (HJoin v l w hw hl hc)
    have HRJ := Lib.hid (fun W (h : Rd W v l) => RJoin_any v l W h (by omega))
    have HL := Lib.hid hl
    generalize ba (jnL l) = q at *
    have hqq : (q.toList == q.toList) = true := beq_self_eq_true _
    obtain ⟨va, vc, rfl, -⟩ := id hl
    generalize l.length = n at *
    clear HSplit HJoin hPw hw hf hl hc
    go_enter Tryd.func4, Tryd.ntmps4
    go_wp2_with first
      | (go_at_call 12; refine HF.out.mono ?_; rintro e w1 ⟨rfl, rfl⟩)
      | (go_at_call 13; refine HJ.out.mono ?_; rintro e w2 ⟨rfl, b2⟩; have HB2 := Lib.hid b2; have HL2 := Lib.hid (HL.out.below b2); have HW2 := Lib.hid (HP.out _ _ HW.out b2); clear b2)
      | (go_at_call 14; refine (HRJ.out _ HL2.out).mono ?_; rintro e w3 ⟨rfl, rfl⟩)
      | (go_at_call 6; refine (HAW.out _ HW2.out).mono ?_; rintro e w4 ⟨rfl, b4⟩; have HB4 := Lib.hid (HB2.out.trans (b4.mono HB2.out.size)); clear b4)
    go_ret
    exact ⟨rfl, HB4.out⟩
end
end Go.Proofs.YtfafoognjodeiaaDoor
