/- LinParse -/
import Derived.Test.YtmdgpejedbkkdaaGreatDoorBT12
import Derived.Test.YtmdgpejedbkkdaaGreatDoorBT20
import Derived.Test.YtmdgpejedbkkdaaGreatDoorBT7
set_option linter.unusedVariables false
set_option linter.unusedSimpArgs false
set_option maxRecDepth 100000
set_option maxHeartbeats 16000000
open Go.Lib (hid)
namespace Go.Proofs.YtmdgpejedbkkdaaGreatDoor
section
open Go.RowKit Go.Sort
open Q6
theorem sglB_good (l : List UInt8) : sglB l = goodL l := by
 unfold sglB
 rw [Bool.eq_iff_iff, every_iff]
 unfold goodL
 rw [List.all_eq_true]
 constructor
 ·intro h c hc
  obtain ⟨j, hj, rfl⟩ := List.mem_iff_getElem.1 hc
  have := h j hj
  unfold okI goodF at this
  rw [List.getD_eq_getElem?_getD, List.getElem?_eq_getElem hj] at this
  exact this
 ·intro h i hi
  unfold okI goodF
  rw [List.getD_eq_getElem?_getD, List.getElem?_eq_getElem hi]
  exact h _ (List.getElem_mem hi)
theorem lprint_any (s : ByteArray) (b : Bool) (w : World) (hw : SomeMax w) (hs : s.size ≤ 100000) (h : goodL s.data.toList = b) :
  Calls Tryz.prog 70 #[.string s] w fun e w' => e = .returned (.bool b) ∧ Below w.heap.size w w' := by
 obtain ⟨q, hq⟩ : ∃ q : ByteArray, sglV s.data.toList = q.data.toList := ⟨⟨(sglV s.data.toList).toArray⟩, by simp⟩
 have HS := hid (fun w0 h0 => Single_any s w0 h0 (by omega) q b hq ((sglB_good _).trans h))
 have HW := hid hw
 clear hq h hw
 go_enter Tryz.func70, Tryz.ntmps70
 go_wp2_with (go_at_call 100; refine (HS.out _ HW.out).mono ?_; rintro e w' ⟨rfl, hb⟩)
 go_ret
 exact ⟨rfl, hb⟩
theorem trimL_any (s q : ByteArray) (w : World) (h : s.data.toList.drop (indN s.data.toList) = q.data.toList) :
  Calls Tryz.prog 67 #[.string s, .string ⟨#[32]⟩] w fun e w' => e = .returned (.string q) ∧ w = w' := by
 refine (Tryz.strings_TrimLeft_one s 32 (by decide) w).mono ?_
 rintro e w' ⟨rfl, rfl⟩
 refine ⟨ret_s (bytes_ext ?_), rfl⟩
 rw [← h, ← trimL_drop]
theorem trimR_any (s q : ByteArray) (l : List UInt8) (e : Nat) (w : World) (hs : s.size ≤ 100000) (hl : s.data.toList = l.take e) (he : e ≤ l.length) (h : l.take (trimN l e) = q.data.toList) :
  Calls Tryz.prog 69 #[.string s, .string ⟨#[32]⟩] w fun e w' => e = .returned (.string q) ∧ w = w' := by
 refine (Tryz.strings_TrimRight_one s 32 (by decide) w (by omega)).mono ?_
 rintro e w' ⟨rfl, rfl⟩
 refine ⟨ret_s (bytes_ext ?_), rfl⟩
 rw [← h, ← trimR_take he, ← hl]
theorem bcell {W w1 : World} (hb : Below W.heap.size W w1) : (∀ b o, b < W.heap.size → w1.cell? ⟨b, o, none⟩ = W.cell? ⟨b, o, none⟩) ∧ (∀ b o, b < W.heap.size → w1.frozen? ⟨b, o, none⟩ = W.frozen? ⟨b, o, none⟩) :=
 ⟨fun b o h => hb.cell (p := ⟨b, o, none⟩) h, fun b o h => hb.frozen (p := ⟨b, o, none⟩) h⟩
theorem upto_data (s : ByteArray) (e : Nat) : (s.extract 0 e).data.toList = s.data.toList.take e := by rw [Lib.extract_upto]
def Row3 (w : World) (g : Nat) (t : TypeId) (a b c : Value) : Prop := w.heap[g]? = some (.cells #[a, b, c] t (0, 0))
section
variable {w w' : World} {g B : Nat} {t : TypeId} {a b c : Value}
theorem Row3.make (w : World) (t : TypeId) (a b c : Value) : Row3 (w.alloc (.cells #[a, b, c] t)) w.heap.size t a b c := row_new w _
theorem Row3.below (h : Row3 w g t a b c) (hb : Below B w w') (hg : g < B) : Row3 w' g t a b c := (hb.block g hg).trans h
theorem Row3.lt (h : Row3 w g t a b c) : g < w.heap.size := by
 rcases Nat.lt_or_ge g w.heap.size with hl | hl
 ·exact hl
 ·unfold Row3 at h; rw [Array.getElem?_eq_none hl] at h; cases h
theorem Row3.alloc (h : Row3 w g t a b c) (o : Obj) : Row3 (w.alloc o) g t a b c := (Below.heap_alloc w o g h.lt).trans h
theorem Row3.cells (h : Row3 w g t a b c) : w.cell? ⟨g, 0, none⟩ = some a ∧ w.cell? ⟨g, 1, none⟩ = some b ∧ w.cell? ⟨g, 2, none⟩ = some c :=
 ⟨cell_of_row w g 0 _ t (0, 0) h, cell_of_row w g 1 _ t (0, 0) h, cell_of_row w g 2 _ t (0, 0) h⟩
theorem Row3.frozen (h : Row3 w g t a b c) : w.frozen? ⟨g, 0, none⟩ = false ∧ w.frozen? ⟨g, 1, none⟩ = false ∧ w.frozen? ⟨g, 2, none⟩ = false := by
 unfold Row3 at h
 simp [World.frozen?, h]
end
theorem parse_none (s : ByteArray) (no : Int) (w : World) (hw : SomeMax w) (hs : s.size ≤ 100000) (h : conE (s.data.toList.drop (indN s.data.toList)) 0 = none) :
  Calls Tryz.prog 50 #[.string s, .int .i64 no] w fun e w' => e = .returned (.tuple #[.agg #[.int .i64 0, .int .i64 0, .string ⟨#[]⟩], .bool false]) ∧ Below w.heap.size w w' := by
 obtain ⟨q, hq⟩ : ∃ q : ByteArray, s.data.toList.drop (indN s.data.toList) = q.data.toList := ⟨⟨(s.data.toList.drop (indN s.data.toList)).toArray⟩, by simp⟩
 have hqs : q.size ≤ 100000 := by
  have h1 : q.data.toList.length = q.size := len_eq q
  rw [← hq, List.length_drop, len_eq] at h1
  omega
 have HT := hid (fun w0 => trimL_any s q w0 hq)
 rw [hq] at h
 have HC := hid (fun w0 => contentEnd_any q w0 hqs 0 false (by rw [h]; rfl) (by rw [h]; rfl))
 clear hq h
 go_enter Tryz.func50, Tryz.ntmps50
 go_wp2_with (first | (go_at_call 67; refine (HT.out _).mono ?_; rintro e w' ⟨rfl, rfl⟩) | (go_at_call 68; refine (HC.out _).mono ?_; rintro e w1 ⟨rfl, hb⟩; obtain ⟨hc, hf⟩ := bcell hb))
 exact bodyPost_ret (v := .tuple #[.agg #[.int .i64 0, .int .i64 0, .string ⟨#[]⟩], .bool false]) (by simp [results, Tryz.results50, go_sem, hc]) rfl ⟨rfl, (((((Below.refl _ _).alloc (Nat.le_refl _) _).trans (hb.mono (by simp))).setCell (by simp) _).setCell (by simp) _).setCell (by simp) _⟩
theorem parse_bad (s : ByteArray) (no : Int) (w : World) (hw : SomeMax w) (hs : s.size ≤ 100000) (e i : Nat) (hi : indN s.data.toList = i) (h : conE (s.data.toList.drop (indN s.data.toList)) 0 = some e)
  (t : ByteArray) (ht : (s.data.toList.drop (indN s.data.toList)).take (trimN (s.data.toList.drop (indN s.data.toList)) e) = t.data.toList) (hg : goodL t.data.toList = false) :
  Calls Tryz.prog 50 #[.string s, .int .i64 no] w fun e w' => e = .returned (.tuple #[.agg #[.int .i64 0, .int .i64 0, .string ⟨#[]⟩], .bool false]) ∧ Below w.heap.size w w' := by
 obtain ⟨q, hq⟩ : ∃ q : ByteArray, s.data.toList.drop (indN s.data.toList) = q.data.toList := ⟨⟨(s.data.toList.drop (indN s.data.toList)).toArray⟩, by simp⟩
 have hql : q.data.toList.length = q.size := len_eq q
 have hqs : q.size ≤ 100000 := by
  have h1 := hql
  rw [← hq, List.length_drop, len_eq] at h1
  omega
 have HT := hid (fun w0 => trimL_any s q w0 hq)
 have e1 : (s.size : Int) - (q.size : Int) = (i : Int) := by
  have h1 := hql
  have h2 := indN_le s.data.toList
  rw [← hq, List.length_drop, len_eq, hi] at h1
  rw [len_eq, hi] at h2
  omega
 have e2 : IntKind.i64.wrap (i : Int) = (i : Int) := by
  have h2 := indN_le s.data.toList
  rw [len_eq, hi] at h2
  exact IntWalk.i64_in _ (by omega)
 rw [hq] at h ht
 have hel : e ≤ q.size := by have := (conE_ge _ q.data.toList 0 e (Nat.le_refl _) (Nat.zero_le _) h).2; omega
 have helz : (e : Int) ≤ (q.size : Int) := by omega
 have hex : (q.extract 0 e).size ≤ 100000 := by rw [ByteArray.size_extract]; omega
 have hts : t.size ≤ 100000 := by
  have h1 : t.data.toList.length = t.size := len_eq t
  have h2 := trimN_le q.data.toList e
  rw [← ht, List.length_take] at h1
  omega
 have HC := hid (fun w0 => contentEnd_any q w0 hqs e true (by rw [h]; rfl) (by rw [h]; rfl))
 have HR := hid (fun w0 => trimR_any (q.extract 0 e) t q.data.toList e w0 hex (upto_data q e) (by omega) ht)
 have HP := hid (fun w0 hw0 => lprint_any t false w0 hw0 hts hg)
 have HW := hid hw
 clear hq h hi hql ht hg hw hex
 go_enter Tryz.func50, Tryz.ntmps50
 go_wp2_with (first | (go_at_call 67; refine (HT.out _).mono ?_; rintro e w' ⟨rfl, rfl⟩) | (go_at_call 68; refine (HC.out _).mono ?_; rintro e w1 ⟨rfl, hbc⟩) | (go_at_call 69; refine (HR.out _).mono ?_; rintro e w' ⟨rfl, rfl⟩))
 have hb1 : Below w.heap.size w w1 := ((Below.refl _ _).alloc (Nat.le_refl _) _).trans (hbc.mono (by simp))
 have hz1 : w.heap.size + 1 ≤ w1.heap.size := by have := hbc.size; simpa using this
 have hb2 := hid (hb1.alloc hb1.size (.cells #[.int .i64 no, .int .i64 (i : Int), .string t] 62))
 refine (HP.out _ (HW.out.keep hb2.out)).mono ?_
 rintro e w3 ⟨rfl, hb⟩
 have hb3 := hid (hb2.out.trans (hb.mono (by have := hb1.size; simp; omega)))
 clear hb1
 have q0 := (((Row3.make w 62 (.int .i64 0) (.int .i64 0) (.string ⟨#[]⟩)).below hbc (by simp)).alloc (.cells #[.int .i64 no, .int .i64 (i : Int), .string t] 62)).below hb (by simp; omega)
 have q1 := (Row3.make w1 62 (.int .i64 no) (.int .i64 (i : Int)) (.string t)).below hb (by simp)
 obtain ⟨q0a, q0b, q0c⟩ := q0.cells
 obtain ⟨q0d, q0e, q0f⟩ := q0.frozen
 obtain ⟨q1a, q1b, q1c⟩ := q1.cells
 have z3 := q1.lt
 clear q0 q1 hb hbc
 go_wp2
 exact bodyPost_ret (v := .tuple #[.agg #[.int .i64 0, .int .i64 0, .string ⟨#[]⟩], .bool false]) (by simp [results, Tryz.results50, go_sem, q0a, q0b, q0c]) rfl ⟨rfl, ((hb3.out.setCell (Nat.le_refl _) _).setCell (Nat.le_refl _) _).setCell (Nat.le_refl _) _⟩
theorem parse_mark (s : ByteArray) (no : Int) (w : World) (hw : SomeMax w) (hs : s.size ≤ 100000) (e i : Nat) (hi : indN s.data.toList = i) (h : conE (s.data.toList.drop (indN s.data.toList)) 0 = some e)
  (t : ByteArray) (ht : (s.data.toList.drop (indN s.data.toList)).take (trimN (s.data.toList.drop (indN s.data.toList)) e) = t.data.toList) (hg : goodL t.data.toList = true) (i0 : i = 0) (hm : marker t.data.toList = true) :
  Calls Tryz.prog 50 #[.string s, .int .i64 no] w fun e w' => e = .returned (.tuple #[.agg #[.int .i64 0, .int .i64 0, .string ⟨#[]⟩], .bool false]) ∧ Below w.heap.size w w' := by
 obtain ⟨q, hq⟩ : ∃ q : ByteArray, s.data.toList.drop (indN s.data.toList) = q.data.toList := ⟨⟨(s.data.toList.drop (indN s.data.toList)).toArray⟩, by simp⟩
 have hql : q.data.toList.length = q.size := len_eq q
 have hqs : q.size ≤ 100000 := by
  have h1 := hql
  rw [← hq, List.length_drop, len_eq] at h1
  omega
 have HT := hid (fun w0 => trimL_any s q w0 hq)
 have e1 : (s.size : Int) - (q.size : Int) = (i : Int) := by
  have h1 := hql
  have h2 := indN_le s.data.toList
  rw [← hq, List.length_drop, len_eq, hi] at h1
  rw [len_eq, hi] at h2
  omega
 have e2 : IntKind.i64.wrap (i : Int) = (i : Int) := by
  have h2 := indN_le s.data.toList
  rw [len_eq, hi] at h2
  exact IntWalk.i64_in _ (by omega)
 rw [hq] at h ht
 have hel : e ≤ q.size := by have := (conE_ge _ q.data.toList 0 e (Nat.le_refl _) (Nat.zero_le _) h).2; omega
 have helz : (e : Int) ≤ (q.size : Int) := by omega
 have hex : (q.extract 0 e).size ≤ 100000 := by rw [ByteArray.size_extract]; omega
 have hts : t.size ≤ 100000 := by
  have h1 : t.data.toList.length = t.size := len_eq t
  have h2 := trimN_le q.data.toList e
  rw [← ht, List.length_take] at h1
  omega
 have HC := hid (fun w0 => contentEnd_any q w0 hqs e true (by rw [h]; rfl) (by rw [h]; rfl))
 have HR := hid (fun w0 => trimR_any (q.extract 0 e) t q.data.toList e w0 hex (upto_data q e) (by omega) ht)
 have HP := hid (fun w0 hw0 => lprint_any t true w0 hw0 hts hg)
 have HW := hid hw
 have HM := hid (fun w0 => marker_any t true w0 hm)
 clear hm
 have iz : ((i : Int) == 0) = true := by rw [i0]; rfl
 clear i0
 clear hq h hi hql ht hg hw hex
 go_enter Tryz.func50, Tryz.ntmps50
 go_wp2_with (first | (go_at_call 67; refine (HT.out _).mono ?_; rintro e w' ⟨rfl, rfl⟩) | (go_at_call 68; refine (HC.out _).mono ?_; rintro e w1 ⟨rfl, hbc⟩) | (go_at_call 69; refine (HR.out _).mono ?_; rintro e w' ⟨rfl, rfl⟩))
 have hb1 : Below w.heap.size w w1 := ((Below.refl _ _).alloc (Nat.le_refl _) _).trans (hbc.mono (by simp))
 have hz1 : w.heap.size + 1 ≤ w1.heap.size := by have := hbc.size; simpa using this
 have hb2 := hid (hb1.alloc hb1.size (.cells #[.int .i64 no, .int .i64 (i : Int), .string t] 62))
 refine (HP.out _ (HW.out.keep hb2.out)).mono ?_
 rintro e w3 ⟨rfl, hb⟩
 have hb3 := hid (hb2.out.trans (hb.mono (by have := hb1.size; simp; omega)))
 clear hb1
 have q0 := (((Row3.make w 62 (.int .i64 0) (.int .i64 0) (.string ⟨#[]⟩)).below hbc (by simp)).alloc (.cells #[.int .i64 no, .int .i64 (i : Int), .string t] 62)).below hb (by simp; omega)
 have q1 := (Row3.make w1 62 (.int .i64 no) (.int .i64 (i : Int)) (.string t)).below hb (by simp)
 obtain ⟨q0a, q0b, q0c⟩ := q0.cells
 obtain ⟨q0d, q0e, q0f⟩ := q0.frozen
 obtain ⟨q1a, q1b, q1c⟩ := q1.cells
 have z3 := q1.lt
 clear q0 q1 hb hbc
 go_wp2_with (go_at_call 71; refine (HM.out _).mono ?_; rintro e w' ⟨rfl, rfl⟩)
 exact bodyPost_ret (v := .tuple #[.agg #[.int .i64 0, .int .i64 0, .string ⟨#[]⟩], .bool false]) (by simp [results, Tryz.results50, go_sem, q0a, q0b, q0c]) rfl ⟨rfl, ((hb3.out.setCell (Nat.le_refl _) _).setCell (Nat.le_refl _) _).setCell (Nat.le_refl _) _⟩
theorem parse_flat (s : ByteArray) (no : Int) (w : World) (hw : SomeMax w) (hs : s.size ≤ 100000) (e i : Nat) (hi : indN s.data.toList = i) (h : conE (s.data.toList.drop (indN s.data.toList)) 0 = some e)
  (t : ByteArray) (ht : (s.data.toList.drop (indN s.data.toList)).take (trimN (s.data.toList.drop (indN s.data.toList)) e) = t.data.toList) (hg : goodL t.data.toList = true) (i0 : i = 0) (hm : marker t.data.toList = false) :
  Calls Tryz.prog 50 #[.string s, .int .i64 no] w fun e w' => e = .returned (.tuple #[.agg #[.int .i64 no, .int .i64 (i : Int), .string t], .bool true]) ∧ Below w.heap.size w w' := by
 obtain ⟨q, hq⟩ : ∃ q : ByteArray, s.data.toList.drop (indN s.data.toList) = q.data.toList := ⟨⟨(s.data.toList.drop (indN s.data.toList)).toArray⟩, by simp⟩
 have hql : q.data.toList.length = q.size := len_eq q
 have hqs : q.size ≤ 100000 := by
  have h1 := hql
  rw [← hq, List.length_drop, len_eq] at h1
  omega
 have HT := hid (fun w0 => trimL_any s q w0 hq)
 have e1 : (s.size : Int) - (q.size : Int) = (i : Int) := by
  have h1 := hql
  have h2 := indN_le s.data.toList
  rw [← hq, List.length_drop, len_eq, hi] at h1
  rw [len_eq, hi] at h2
  omega
 have e2 : IntKind.i64.wrap (i : Int) = (i : Int) := by
  have h2 := indN_le s.data.toList
  rw [len_eq, hi] at h2
  exact IntWalk.i64_in _ (by omega)
 rw [hq] at h ht
 have hel : e ≤ q.size := by have := (conE_ge _ q.data.toList 0 e (Nat.le_refl _) (Nat.zero_le _) h).2; omega
 have helz : (e : Int) ≤ (q.size : Int) := by omega
 have hex : (q.extract 0 e).size ≤ 100000 := by rw [ByteArray.size_extract]; omega
 have hts : t.size ≤ 100000 := by
  have h1 : t.data.toList.length = t.size := len_eq t
  have h2 := trimN_le q.data.toList e
  rw [← ht, List.length_take] at h1
  omega
 have HC := hid (fun w0 => contentEnd_any q w0 hqs e true (by rw [h]; rfl) (by rw [h]; rfl))
 have HR := hid (fun w0 => trimR_any (q.extract 0 e) t q.data.toList e w0 hex (upto_data q e) (by omega) ht)
 have HP := hid (fun w0 hw0 => lprint_any t true w0 hw0 hts hg)
 have HW := hid hw
 have HM := hid (fun w0 => marker_any t false w0 hm)
 clear hm
 have iz : ((i : Int) == 0) = true := by rw [i0]; rfl
 clear i0
 clear hq h hi hql ht hg hw hex
 go_enter Tryz.func50, Tryz.ntmps50
 go_wp2_with (first | (go_at_call 67; refine (HT.out _).mono ?_; rintro e w' ⟨rfl, rfl⟩) | (go_at_call 68; refine (HC.out _).mono ?_; rintro e w1 ⟨rfl, hbc⟩) | (go_at_call 69; refine (HR.out _).mono ?_; rintro e w' ⟨rfl, rfl⟩))
 have hb1 : Below w.heap.size w w1 := ((Below.refl _ _).alloc (Nat.le_refl _) _).trans (hbc.mono (by simp))
 have hz1 : w.heap.size + 1 ≤ w1.heap.size := by have := hbc.size; simpa using this
 have hb2 := hid (hb1.alloc hb1.size (.cells #[.int .i64 no, .int .i64 (i : Int), .string t] 62))
 refine (HP.out _ (HW.out.keep hb2.out)).mono ?_
 rintro e w3 ⟨rfl, hb⟩
 have hb3 := hid (hb2.out.trans (hb.mono (by have := hb1.size; simp; omega)))
 clear hb1
 have q0 := (((Row3.make w 62 (.int .i64 0) (.int .i64 0) (.string ⟨#[]⟩)).below hbc (by simp)).alloc (.cells #[.int .i64 no, .int .i64 (i : Int), .string t] 62)).below hb (by simp; omega)
 have q1 := (Row3.make w1 62 (.int .i64 no) (.int .i64 (i : Int)) (.string t)).below hb (by simp)
 obtain ⟨q0a, q0b, q0c⟩ := q0.cells
 obtain ⟨q0d, q0e, q0f⟩ := q0.frozen
 obtain ⟨q1a, q1b, q1c⟩ := q1.cells
 have z3 := q1.lt
 clear q0 q1 hb hbc
 go_wp2_with (go_at_call 71; refine (HM.out _).mono ?_; rintro e w' ⟨rfl, rfl⟩)
 exact bodyPost_ret (v := .tuple #[.agg #[.int .i64 no, .int .i64 (i : Int), .string t], .bool true]) (by simp [results, Tryz.results50, go_sem, q0a, q0b, q0c]) rfl ⟨rfl, ((hb3.out.setCell (Nat.le_refl _) _).setCell (Nat.le_refl _) _).setCell (Nat.le_refl _) _⟩
theorem parse_deep (s : ByteArray) (no : Int) (w : World) (hw : SomeMax w) (hs : s.size ≤ 100000) (e i : Nat) (hi : indN s.data.toList = i) (h : conE (s.data.toList.drop (indN s.data.toList)) 0 = some e)
  (t : ByteArray) (ht : (s.data.toList.drop (indN s.data.toList)).take (trimN (s.data.toList.drop (indN s.data.toList)) e) = t.data.toList) (hg : goodL t.data.toList = true) (i0 : i ≠ 0) :
  Calls Tryz.prog 50 #[.string s, .int .i64 no] w fun e w' => e = .returned (.tuple #[.agg #[.int .i64 no, .int .i64 (i : Int), .string t], .bool true]) ∧ Below w.heap.size w w' := by
 obtain ⟨q, hq⟩ : ∃ q : ByteArray, s.data.toList.drop (indN s.data.toList) = q.data.toList := ⟨⟨(s.data.toList.drop (indN s.data.toList)).toArray⟩, by simp⟩
 have hql : q.data.toList.length = q.size := len_eq q
 have hqs : q.size ≤ 100000 := by
  have h1 := hql
  rw [← hq, List.length_drop, len_eq] at h1
  omega
 have HT := hid (fun w0 => trimL_any s q w0 hq)
 have e1 : (s.size : Int) - (q.size : Int) = (i : Int) := by
  have h1 := hql
  have h2 := indN_le s.data.toList
  rw [← hq, List.length_drop, len_eq, hi] at h1
  rw [len_eq, hi] at h2
  omega
 have e2 : IntKind.i64.wrap (i : Int) = (i : Int) := by
  have h2 := indN_le s.data.toList
  rw [len_eq, hi] at h2
  exact IntWalk.i64_in _ (by omega)
 rw [hq] at h ht
 have hel : e ≤ q.size := by have := (conE_ge _ q.data.toList 0 e (Nat.le_refl _) (Nat.zero_le _) h).2; omega
 have helz : (e : Int) ≤ (q.size : Int) := by omega
 have hex : (q.extract 0 e).size ≤ 100000 := by rw [ByteArray.size_extract]; omega
 have hts : t.size ≤ 100000 := by
  have h1 : t.data.toList.length = t.size := len_eq t
  have h2 := trimN_le q.data.toList e
  rw [← ht, List.length_take] at h1
  omega
 have HC := hid (fun w0 => contentEnd_any q w0 hqs e true (by rw [h]; rfl) (by rw [h]; rfl))
 have HR := hid (fun w0 => trimR_any (q.extract 0 e) t q.data.toList e w0 hex (upto_data q e) (by omega) ht)
 have HP := hid (fun w0 hw0 => lprint_any t true w0 hw0 hts hg)
 have HW := hid hw
 have iz : ((i : Int) == 0) = false := beq_eq_false_iff_ne.2 (by omega)
 have iz2 : ¬ i = 0 := i0
 clear i0
 clear hq h hi hql ht hg hw hex
 go_enter Tryz.func50, Tryz.ntmps50
 go_wp2_with (first | (go_at_call 67; refine (HT.out _).mono ?_; rintro e w' ⟨rfl, rfl⟩) | (go_at_call 68; refine (HC.out _).mono ?_; rintro e w1 ⟨rfl, hbc⟩) | (go_at_call 69; refine (HR.out _).mono ?_; rintro e w' ⟨rfl, rfl⟩))
 have hb1 : Below w.heap.size w w1 := ((Below.refl _ _).alloc (Nat.le_refl _) _).trans (hbc.mono (by simp))
 have hz1 : w.heap.size + 1 ≤ w1.heap.size := by have := hbc.size; simpa using this
 have hb2 := hid (hb1.alloc hb1.size (.cells #[.int .i64 no, .int .i64 (i : Int), .string t] 62))
 refine (HP.out _ (HW.out.keep hb2.out)).mono ?_
 rintro e w3 ⟨rfl, hb⟩
 have hb3 := hid (hb2.out.trans (hb.mono (by have := hb1.size; simp; omega)))
 clear hb1
 have q0 := (((Row3.make w 62 (.int .i64 0) (.int .i64 0) (.string ⟨#[]⟩)).below hbc (by simp)).alloc (.cells #[.int .i64 no, .int .i64 (i : Int), .string t] 62)).below hb (by simp; omega)
 have q1 := (Row3.make w1 62 (.int .i64 no) (.int .i64 (i : Int)) (.string t)).below hb (by simp)
 obtain ⟨q0a, q0b, q0c⟩ := q0.cells
 obtain ⟨q0d, q0e, q0f⟩ := q0.frozen
 obtain ⟨q1a, q1b, q1c⟩ := q1.cells
 have z3 := q1.lt
 clear q0 q1 hb hbc
 go_wp2
 exact bodyPost_ret (v := .tuple #[.agg #[.int .i64 no, .int .i64 (i : Int), .string t], .bool true]) (by simp [results, Tryz.results50, go_sem, q0a, q0b, q0c]) rfl ⟨rfl, ((hb3.out.setCell (Nat.le_refl _) _).setCell (Nat.le_refl _) _).setCell (Nat.le_refl _) _⟩
end
end Go.Proofs.YtmdgpejedbkkdaaGreatDoor
