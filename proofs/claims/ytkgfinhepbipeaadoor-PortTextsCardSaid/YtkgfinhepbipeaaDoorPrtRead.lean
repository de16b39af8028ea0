/- The contract of read. -/
import Derived.Test.YtkgfinhepbipeaaDoorPrtCut
import Derived.Test.YtkgfinhepbipeaaDoorRefPrt4
namespace Go.Proofs.YtkgfinhepbipeaaDoor
open Go.RowKit Go.Sort
open Nw Dg P16
set_option linter.unusedVariables false
theorem indexByte_no {l : List UInt8} {c : UInt8} (h : c ∉ l) : Lib.indexByte l c = -1 := by
  induction l with
  | nil => rfl
  | cons d r ih =>
    have hd : (d == c) = false := by rw [beq_eq_false_iff_ne]; rintro rfl; exact h (List.mem_cons_self ..)
    have := ih fun hm => h (List.mem_cons_of_mem _ hm)
    simp [Lib.indexByte, hd, this]
theorem indexByte_yes {a b : List UInt8} {c : UInt8} (h : c ∉ a) : Lib.indexByte (a ++ c :: b) c = a.length := by
  induction a with
  | nil => simp [Lib.indexByte]
  | cons d r ih =>
    have hd : (d == c) = false := by rw [beq_eq_false_iff_ne]; rintro rfl; exact h (List.mem_cons_self ..)
    have h2 := ih fun hm => h (List.mem_cons_of_mem _ hm)
    have h3 : ((r.length : Int) == -1) = false := by rw [beq_eq_false_iff_ne]; omega
    simp [Lib.indexByte, hd, h2, h3]
theorem Index_same (s : ByteArray) (c : UInt8) (w : World) :
    Calls Tryd.prog 67 #[.string s, .string ⟨#[c]⟩] w fun e w' => e = .returned (.int .i64 (Lib.indexByte s.data.toList c)) ∧ w = w' :=
  (Tryd.stringslite_Index_one s c w).mono fun e w' ⟨h1, h2⟩ => ⟨h1, h2.symm⟩
theorem slcut_no (s : ByteArray) (c : UInt8) (w : World) (hs : s.size ≤ 100000) (h : c ∉ s.data.toList) :
    Calls Tryd.prog 49 #[.string s, .string ⟨#[c]⟩] w fun e w' => e = .returned (.tuple #[.string s, .string ⟨#[]⟩, .bool false]) ∧ Below w.heap.size w w' := by
  have hi := indexByte_no h
  go_enter Tryd.func49, Tryd.ntmps49
  go_wp2_with (go_at_call 67; refine (Index_same _ _ _).mono ?_; rintro e w' ⟨rfl, rfl⟩)
  go_ret3
  exact ⟨rfl, Below.refl _ _⟩
theorem slcut_yes (s a b : ByteArray) (c : UInt8) (w : World) (hs : s.size ≤ 100000) (hl : s.data.toList = a.data.toList ++ c :: b.data.toList) (hc : c ∉ a.data.toList) :
    Calls Tryd.prog 49 #[.string s, .string ⟨#[c]⟩] w fun e w' => e = .returned (.tuple #[.string a, .string b, .bool true]) ∧ Below w.heap.size w w' := by
  have hi : Lib.indexByte s.data.toList c = a.size := by rw [hl]; exact indexByte_yes hc
  have hz : s.size = a.size + (b.size + 1) := by rw [← len_eq s, hl, List.length_append, List.length_cons, len_eq, len_eq]
  have hk : a.size < s.size := by omega
  have HA := Lib.hid (ext_take s a _ hl)
  have HB := Lib.hid (ext_drop s a b c hl)
  clear hl hz hc
  go_enter Tryd.func49, Tryd.ntmps49
  go_wp2_with (go_at_call 67; refine (Index_same _ _ _).mono ?_; rintro e w' ⟨rfl, rfl⟩)
  go_region
  go_wp2
  rw [HA.out, HB.out]
  go_ret3
  exact ⟨rfl, (Below.refl _ _).drew⟩
theorem slash_no (s : ByteArray) (w : World) (hs : s.size ≤ 100000) (h : (47 : UInt8) ∉ s.data.toList) :
    Calls Tryd.prog 35 #[.string s, .string ⟨#[47]⟩] w fun e w' => e = .returned (.tuple #[.string s, .string ⟨#[]⟩, .bool false]) ∧ Below w.heap.size w w' := by
  go_enter Tryd.func35, Tryd.ntmps35
  go_wp2_with (go_at_call 49; refine (slcut_no _ _ _ hs h).mono ?_; rintro e w' ⟨rfl, hb⟩)
  go_ret3
  exact ⟨rfl, hb⟩
theorem slash_yes (s a b : ByteArray) (w : World) (hs : s.size ≤ 100000) (hl : s.data.toList = a.data.toList ++ 47 :: b.data.toList) (hc : (47 : UInt8) ∉ a.data.toList) :
    Calls Tryd.prog 35 #[.string s, .string ⟨#[47]⟩] w fun e w' => e = .returned (.tuple #[.string a, .string b, .bool true]) ∧ Below w.heap.size w w' := by
  have HL := Lib.hid hl; clear hl
  go_enter Tryd.func35, Tryd.ntmps35
  go_wp2_with (go_at_call 49; refine (slcut_yes _ _ _ _ _ hs HL.out hc).mono ?_; rintro e w' ⟨rfl, hb⟩)
  go_ret3
  exact ⟨rfl, hb⟩
theorem cutLast_any (s a b : ByteArray) (w : World) (hs : s.size ≤ 100000) (h : cl s.data.toList = (a.data.toList, b.data.toList)) :
    Calls Tryd.prog 36 #[.string s] w fun e w' => e = .returned (.tuple #[.string a, .string b]) ∧ Below w.heap.size w w' := by
  unfold cl at h
  cases hl : lastC s.data.toList with
  | none =>
    rw [hl] at h
    injection h with h1 h2
    obtain rfl : s = b := bytes_ext h2
    obtain rfl : a = ⟨#[]⟩ := bytes_ext h1.symm
    exact cutLast_no _ w hs (lastC_no hl)
  | some q =>
    obtain ⟨x, y⟩ := q
    rw [hl] at h
    injection h with h1 h2
    subst h1; subst h2
    obtain ⟨k1, k2⟩ := lastC_inv hl
    exact cutLast_yes s a b w hs k1 k2
theorem cl_len (l : L8) : (cl l).1.length ≤ l.length ∧ (cl l).2.length ≤ l.length := by
  unfold cl
  cases hl : lastC l with
  | none => exact ⟨Nat.zero_le _, Nat.le_refl _⟩
  | some q =>
    obtain ⟨x, y⟩ := q
    obtain ⟨rfl, _⟩ := lastC_inv hl
    dsimp only
    rw [List.length_append, List.length_cons]
    omega
/-- The result's box, still empty. -/
def BoxZ (w0 W : World) : Prop := Below w0.heap.size w0 W ∧ Rw4 W w0.heap.size 24 (.string ⟨#[]⟩) (.int .i64 0) (.int .i64 0) (.string ⟨#[]⟩)
theorem boxZ_new (w0 : World) : BoxZ w0 (w0.alloc (.cells #[.string ⟨#[]⟩, .int .i64 0, .int .i64 0, .string ⟨#[]⟩] 24)) := ⟨(Below.refl _ _).alloc (Nat.le_refl _) _, Rw4.make w0 _ _ _ _ _⟩
theorem BoxZ.go {w0 W W' : World} (k : BoxZ w0 W) (hb : Below W.heap.size W W') : BoxZ w0 W' := ⟨k.1.trans (hb.mono k.1.size), k.2.below hb⟩
theorem BoxZ.done {w0 W : World} (k : BoxZ w0 W) (a b c d : Value) :
    Below w0.heap.size w0 ((((W.setCell ⟨w0.heap.size, 0, none⟩ a).setCell ⟨w0.heap.size, 1, none⟩ b).setCell ⟨w0.heap.size, 2, none⟩ c).setCell ⟨w0.heap.size, 3, none⟩ d) ∧
      Rw4 ((((W.setCell ⟨w0.heap.size, 0, none⟩ a).setCell ⟨w0.heap.size, 1, none⟩ b).setCell ⟨w0.heap.size, 2, none⟩ c).setCell ⟨w0.heap.size, 3, none⟩ d) w0.heap.size 24 a b c d :=
  ⟨(((k.1.setCell (p := ⟨w0.heap.size, 0, none⟩) (Nat.le_refl _) _).setCell (p := ⟨w0.heap.size, 1, none⟩) (Nat.le_refl _) _).setCell (p := ⟨w0.heap.size, 2, none⟩) (Nat.le_refl _) _).setCell (p := ⟨w0.heap.size, 3, none⟩) (Nat.le_refl _) _, (((k.2.set0 a).set1 b).set2 c).set3 d⟩
theorem val_readP {s A P U I H O : ByteArray} (h1 : sl s.data.toList = (A.data.toList, P.data.toList)) (h2 : cl A.data.toList = (U.data.toList, I.data.toList)) (h3 : cl U.data.toList = (H.data.toList, O.data.toList)) :
    valP (readP s.data.toList) = .agg #[.string H, .int .i64 (countN O.data.toList 65535), .int .i64 (countN I.data.toList 65535), .string P] := by
  unfold valP readP
  rw [h1]
  dsimp only
  rw [h2]
  dsimp only
  rw [h3]
  dsimp only
  rw [ba_of, ba_of]
set_option maxRecDepth 100000 in
set_option maxHeartbeats 8000000 in
theorem read_any (s : ByteArray) (w : World) (hs : s.size ≤ 100000) :
    Calls Tryd.prog 20 #[.string s] w fun e w' => e = .returned (valP (readP s.data.toList)) ∧ Below w.heap.size w w' := by
  have bs : ∀ x : L8, ∃ a : ByteArray, a.data.toList = x := fun x => ⟨ba x, ba_data x⟩
  have key : ∀ (A P : ByteArray), A.size ≤ 100000 → sl s.data.toList = (A.data.toList, P.data.toList) → ∃ U I H O : ByteArray, I.size ≤ 100000 ∧ O.size ≤ 100000 ∧ Hid (valP (readP s.data.toList) = .agg #[.string H, .int .i64 (countN O.data.toList 65535), .int .i64 (countN I.data.toList 65535), .string P]) ∧
      Hid (∀ w0, Calls Tryd.prog 36 #[.string A] w0 fun e w' => e = .returned (.tuple #[.string U, .string I]) ∧ Below w0.heap.size w0 w') ∧
      Hid (∀ w0, Calls Tryd.prog 36 #[.string U] w0 fun e w' => e = .returned (.tuple #[.string H, .string O]) ∧ Below w0.heap.size w0 w') := by
    intro A P hA hsl
    obtain ⟨U, hU⟩ := bs (cl A.data.toList).1
    obtain ⟨I, hI⟩ := bs (cl A.data.toList).2
    obtain ⟨H, hH⟩ := bs (cl U.data.toList).1
    obtain ⟨O, hO⟩ := bs (cl U.data.toList).2
    have l1 := cl_len A.data.toList
    have l2 := cl_len U.data.toList
    have e0 : A.data.toList.length = A.size := rfl
    have e1 : U.data.toList.length = U.size := rfl
    have e2 : I.data.toList.length = I.size := rfl
    have e3 : O.data.toList.length = O.size := rfl
    rw [← hU, ← hI, e0, e1, e2] at l1
    rw [← hH, ← hO, e1, e3] at l2
    have c1 : cl A.data.toList = (U.data.toList, I.data.toList) := by rw [hU, hI]
    have c2 : cl U.data.toList = (H.data.toList, O.data.toList) := by rw [hH, hO]
    exact ⟨U, I, H, O, by omega, by omega, Lib.hid (val_readP hsl c1 c2), Lib.hid (fun w0 => cutLast_any A U I w0 (by omega) c1), Lib.hid (fun w0 => cutLast_any U H O w0 (by omega) c2)⟩
  obtain ⟨CN, hCN⟩ : ∃ CN : ByteArray → Int, CN = fun x => countN x.data.toList 65535 := ⟨_, rfl⟩
  obtain ⟨CE, hCE⟩ : ∃ CE : ByteArray → Int, CE = fun x => countE x.data.toList 65535 := ⟨_, rfl⟩
  have HK : Hid (∀ (x : ByteArray) (w0 : World), x.size ≤ 100000 → Calls Tryd.prog 37 #[.string x, .int .i64 65535] w0 fun e w' => e = .returned (.tuple #[.int .i64 (CN x), .int .i64 (CE x)]) ∧ w0 = w') := Lib.hid (fun x w0 hx => by rw [hCN, hCE]; exact Count_any x 65535 w0 (by unfold maxLen; omega) (by decide) (by decide))
  have HCN : Hid (∀ x : ByteArray, countN x.data.toList 65535 = CN x) := Lib.hid (fun x => by rw [hCN])
  have HZ := Lib.hid (boxZ_new w)
  clear hCN hCE
  cases hf : firstS s.data.toList with
  | none =>
    have hsl : sl s.data.toList = (s.data.toList, (⟨#[116, 99, 112]⟩ : ByteArray).data.toList) := by unfold sl; rw [hf]; rfl
    obtain ⟨U, I, H, O, hI, hO, HV, HC1, HC2⟩ := key s ⟨#[116, 99, 112]⟩ hs hsl
    rw [HCN.out, HCN.out] at HV
    have HS := Lib.hid (fun w0 => slash_no s w0 hs (firstS_no hf))
    clear hsl key hf
    rw [HV.out]
    clear HV HCN
    go_enter Tryd.func20, Tryd.ntmps20
    go_wp2_with first
      | (go_at_call 35; refine (HS.out _).mono ?_; rintro e w1 ⟨rfl, hb⟩; have HB := Lib.hid (HZ.out.go hb); clear hb)
      | (go_at_call 36; (with_reducible refine (HC1.out _).mono ?_); rintro e w2 ⟨rfl, hb⟩; replace HB := Lib.hid (HB.out.go hb); clear hb)
      | (go_at_call 36; (with_reducible refine (HC2.out _).mono ?_); rintro e w3 ⟨rfl, hb⟩; replace HB := Lib.hid (HB.out.go hb); clear hb; obtain ⟨z0, z1, z2, z3⟩ := HB.out.2.cells; obtain ⟨r0, r1, r2, r3⟩ := HB.out.2.frozen; have hsz := HB.out.2.lt)
      | (go_at_call 37; refine (HK.out _ _ (by assumption)).mono ?_; rintro e w4 ⟨rfl, rfl⟩)
    have HF := HB.out.done (.string H) (.int .i64 (CN O)) (.int .i64 (CN I)) (.string ⟨#[116, 99, 112]⟩)
    obtain ⟨y0, y1, y2, y3⟩ := HF.2.cells
    exact bodyPost_ret (v := .agg #[.string H, .int .i64 (CN O), .int .i64 (CN I), .string ⟨#[116, 99, 112]⟩]) (by simp [results, Tryd.results20, go_sem, y0, y1, y2, y3]) rfl ⟨rfl, HF.1⟩
  | some q =>
    obtain ⟨x, y⟩ := q
    obtain ⟨A, rfl⟩ := bs x
    obtain ⟨P, rfl⟩ := bs y
    obtain ⟨k1, k2⟩ := firstS_inv hf
    have hsl : sl s.data.toList = (A.data.toList, P.data.toList) := by unfold sl; rw [hf]
    have hA : A.size ≤ 100000 := by
      have h9 := congrArg List.length k1
      rw [List.length_append] at h9
      have e0 : A.data.toList.length = A.size := rfl
      have e1 : s.data.toList.length = s.size := rfl
      omega
    obtain ⟨U, I, H, O, hI, hO, HV, HC1, HC2⟩ := key A P hA hsl
    rw [HCN.out, HCN.out] at HV
    have HS := Lib.hid (fun w0 => slash_yes s A P w0 hs k1 k2)
    clear hsl key hf k1 k2
    rw [HV.out]
    clear HV HCN
    go_enter Tryd.func20, Tryd.ntmps20
    go_wp2_with first
      | (go_at_call 35; refine (HS.out _).mono ?_; rintro e w1 ⟨rfl, hb⟩; have HB := Lib.hid (HZ.out.go hb); clear hb)
      | (go_at_call 36; (with_reducible refine (HC1.out _).mono ?_); rintro e w2 ⟨rfl, hb⟩; replace HB := Lib.hid (HB.out.go hb); clear hb)
      | (go_at_call 36; (with_reducible refine (HC2.out _).mono ?_); rintro e w3 ⟨rfl, hb⟩; replace HB := Lib.hid (HB.out.go hb); clear hb; obtain ⟨z0, z1, z2, z3⟩ := HB.out.2.cells; obtain ⟨r0, r1, r2, r3⟩ := HB.out.2.frozen; have hsz := HB.out.2.lt)
      | (go_at_call 37; refine (HK.out _ _ (by assumption)).mono ?_; rintro e w4 ⟨rfl, rfl⟩)
    have HF := HB.out.done (.string H) (.int .i64 (CN O)) (.int .i64 (CN I)) (.string P)
    obtain ⟨y0, y1, y2, y3⟩ := HF.2.cells
    exact bodyPost_ret (v := .agg #[.string H, .int .i64 (CN O), .int .i64 (CN I), .string P]) (by simp [results, Tryd.results20, go_sem, y0, y1, y2, y3]) rfl ⟨rfl, HF.1⟩
end Go.Proofs.YtkgfinhepbipeaaDoor
