/- The reference's Parse: a text that ends in /udp. -/
import Derived.Test.YtkgfinhepbipeaaDoorRefPrt4
import Derived.Deep.Cut
namespace Go.Proofs.YtkgfinhepbipeaaDoor
open Go.RowKit Go.Sort
open Nw Dg P16
set_option linter.unusedVariables false
set_option linter.unusedSimpArgs false
set_option maxRecDepth 100000 in
set_option maxHeartbeats 8000000 in
theorem RPs_d_k1e (s S : ByteArray) (hs : s.size ≤ 100000) (hSs : S.size ≤ 100000) (m : Nat) (hm : s.size = m + 4) (hm0 : 0 < m) (hQ : s.extract m s.size = ⟨#[47, 117, 100, 112]⟩) (hP : s.extract (m + 1) s.size = ⟨#[117, 100, 112]⟩) (hS : s.extract 0 m = S) (aa : ByteArray) (hl : cutL 58 S.data.toList = [aa.data.toList]) (hE : ¬ countE aa.data.toList 65535 = 0) (w : World) :
    Calls Tryd.prog 8 #[.string s] w fun e w' => e = .returned (.tuple #[.agg #[.string ⟨#[]⟩, .int .i64 0, .int .i64 0, .string ⟨#[]⟩], .int .i64 3]) ∧ Below w.heap.size w w' := by
  obtain ⟨n, hn⟩ : ∃ n, s.size = n := ⟨_, rfl⟩
  obtain ⟨m1, hm1⟩ : ∃ m1, m + 1 = m1 := ⟨_, rfl⟩
  rw [hn] at hQ hP hm
  rw [hm1] at hP
  have h4 : (4 : Int) < (n : Int) := by omega
  have h4n : 4 < n := by omega
  have kw4 : IntKind.i64.wrap ((n : Int) - 4) = (m : Int) := by rw [show (n : Int) - 4 = (m : Int) by omega]; exact IntWalk.i64_in _ (by omega)
  have kw3 : IntKind.i64.wrap ((n : Int) - 3) = (m1 : Int) := by rw [show (n : Int) - 3 = (m1 : Int) by omega]; exact IntWalk.i64_in _ (by omega)
  have hmn : (m : Int) ≤ (n : Int) := by omega
  have hmn2 : m ≤ n := by omega
  have hmn3 : (m1 : Int) ≤ (n : Int) := by omega
  have hmn4 : m1 ≤ n := by omega
  clear hm hm1 hm0
  have HC := Lib.hid (fun w0 => RCut16_any S 58 w0 hSs)
  rw [hl] at HC
  have hall : ∀ x ∈ cutL 58 S.data.toList, x.length ≤ 100000 := fun x hx => by
    have h9 := cutA_size 58 S.data.toList [] x hx
    rw [show S.data.toList.length = S.size from rfl] at h9
    simp at h9; omega
  rw [hl] at hall
  have aas : aa.size ≤ 100000 := hall aa.data.toList (by simp)
  clear hall
  obtain ⟨CN, hCN⟩ : ∃ CN : ByteArray → Int, CN = fun x => countN x.data.toList 65535 := ⟨_, rfl⟩
  obtain ⟨CE, hCE⟩ : ∃ CE : ByteArray → Int, CE = fun x => countE x.data.toList 65535 := ⟨_, rfl⟩
  have HK : Hid (∀ (x : ByteArray) (w0 : World), x.size ≤ 100000 → Calls Tryd.prog 22 #[.string x, .int .i64 65535] w0 fun e w' => e = .returned (.tuple #[.int .i64 (CN x), .int .i64 (CE x)]) ∧ w0 = w') := Lib.hid (fun x w0 hx => by rw [hCN, hCE]; exact RCount_any x 65535 w0 (by unfold maxLen; omega) (by decide) (by decide))
  have n_aa : countN aa.data.toList 65535 = CN aa := by rw [hCN]
  have e_aa : countE aa.data.toList 65535 = CE aa := by rw [hCE]
  rw [e_aa] at hE
  clear hCN hCE n_aa e_aa
  have E1 : (CE aa == 0) = false := beq_eq_false_iff_ne.2 hE
  have E2 : (CE aa != 0) = true := bne_iff_ne.2 hE
  have HPB := Lib.hid (pb_new w ⟨#[]⟩ ⟨#[117, 100, 112]⟩ 0 0)
  clear hl
  go_enter Tryd.func8, Tryd.ntmps8
  go_upto_region 12 with (first
    | (go_at_call 21; refine (HC.out _).mono ?_; rintro e w3 ⟨v, rfl, hrd, hb, hfr⟩; obtain ⟨b, f, cap, rfl, q1, q2, q3, q4⟩ := rd_open (m := 0) hrd rfl; have q5 := hfr b rfl; have q6 := hb.size; have c0 := q4 0 (by simp); simp only [List.getElem_cons_zero, List.getElem_cons_succ, ba_of, Nat.add_zero] at c0; clear q4; have HP := Lib.hid (HPB.out.below hb); clear HPB hfr hrd; simp only [World.size_alloc] at q5; clear hb; obtain ⟨x0, x1, x2, x3⟩ := HP.out.2.2.cells; obtain ⟨z0, z1, z2, z3⟩ := HP.out.2.1.cells; obtain ⟨f0, f1, f2, f3⟩ := HP.out.2.2.frozen; obtain ⟨r0, r1, r2, r3⟩ := HP.out.2.1.frozen; have hsz := HP.out.size; unfold maxLen at q2)
    | (go_at_call 22; refine (HK.out _ _ (by assumption)).mono ?_; rintro e w4 ⟨rfl, rfl⟩))
  obtain ⟨W1, hW1⟩ : ∃ W, w3.setCell ⟨w.heap.size + 1, 2, none⟩ (.int .i64 (CN aa)) = W := ⟨_, rfl⟩
  rw [hW1]
  replace HP := Lib.hid (HP.out.inn (CN aa))
  rw [hW1] at HP
  replace c0 := (cell_othP (W := w3) (p := ⟨w.heap.size + 1, 2, none⟩) (q := ⟨b, f, none⟩) (by show b ≠ w.heap.size + 1; omega) (.int .i64 (CN aa))).trans c0
  rw [hW1] at c0
  clear x0 x1 x2 x3 z0 z1 z2 z3 f0 f1 f2 f3 r0 r1 r2 r3 hsz
  clear hW1
  obtain ⟨x0, x1, x2, x3⟩ := HP.out.2.2.cells; obtain ⟨z0, z1, z2, z3⟩ := HP.out.2.1.cells; obtain ⟨f0, f1, f2, f3⟩ := HP.out.2.2.frozen; obtain ⟨r0, r1, r2, r3⟩ := HP.out.2.1.frozen; have hsz := HP.out.size
  go_wp2
  have HF := pb_end HP.out (.string ⟨#[]⟩) (.int .i64 0) (.int .i64 0) (.string ⟨#[]⟩)
  obtain ⟨y0, y1, y2, y3⟩ := HF.2.cells
  exact bodyPost_ret (v := .tuple #[.agg #[.string ⟨#[]⟩, .int .i64 0, .int .i64 0, .string ⟨#[]⟩], .int .i64 3]) (by simp [results, Tryd.results8, go_sem, y0, y1, y2, y3]) rfl ⟨rfl, HF.1⟩
set_option maxRecDepth 100000 in
set_option maxHeartbeats 8000000 in
theorem RPs_d_k1r (s S : ByteArray) (hs : s.size ≤ 100000) (hSs : S.size ≤ 100000) (m : Nat) (hm : s.size = m + 4) (hm0 : 0 < m) (hQ : s.extract m s.size = ⟨#[47, 117, 100, 112]⟩) (hP : s.extract (m + 1) s.size = ⟨#[117, 100, 112]⟩) (hS : s.extract 0 m = S) (aa : ByteArray) (hl : cutL 58 S.data.toList = [aa.data.toList]) (hE : countE aa.data.toList 65535 = 0) (hr : rightB ⟨[], 0, countN aa.data.toList 65535, udpL⟩ = false) (w : World) :
    Calls Tryd.prog 8 #[.string s] w fun e w' => e = .returned (.tuple #[.agg #[.string ⟨#[]⟩, .int .i64 0, .int .i64 0, .string ⟨#[]⟩], .int .i64 3]) ∧ Below w.heap.size w w' := by
  obtain ⟨n, hn⟩ : ∃ n, s.size = n := ⟨_, rfl⟩
  obtain ⟨m1, hm1⟩ : ∃ m1, m + 1 = m1 := ⟨_, rfl⟩
  rw [hn] at hQ hP hm
  rw [hm1] at hP
  have h4 : (4 : Int) < (n : Int) := by omega
  have h4n : 4 < n := by omega
  have kw4 : IntKind.i64.wrap ((n : Int) - 4) = (m : Int) := by rw [show (n : Int) - 4 = (m : Int) by omega]; exact IntWalk.i64_in _ (by omega)
  have kw3 : IntKind.i64.wrap ((n : Int) - 3) = (m1 : Int) := by rw [show (n : Int) - 3 = (m1 : Int) by omega]; exact IntWalk.i64_in _ (by omega)
  have hmn : (m : Int) ≤ (n : Int) := by omega
  have hmn2 : m ≤ n := by omega
  have hmn3 : (m1 : Int) ≤ (n : Int) := by omega
  have hmn4 : m1 ≤ n := by omega
  clear hm hm1 hm0
  have HC := Lib.hid (fun w0 => RCut16_any S 58 w0 hSs)
  rw [hl] at HC
  have hall : ∀ x ∈ cutL 58 S.data.toList, x.length ≤ 100000 := fun x hx => by
    have h9 := cutA_size 58 S.data.toList [] x hx
    rw [show S.data.toList.length = S.size from rfl] at h9
    simp at h9; omega
  rw [hl] at hall
  have aas : aa.size ≤ 100000 := hall aa.data.toList (by simp)
  clear hall
  obtain ⟨CN, hCN⟩ : ∃ CN : ByteArray → Int, CN = fun x => countN x.data.toList 65535 := ⟨_, rfl⟩
  obtain ⟨CE, hCE⟩ : ∃ CE : ByteArray → Int, CE = fun x => countE x.data.toList 65535 := ⟨_, rfl⟩
  have HK : Hid (∀ (x : ByteArray) (w0 : World), x.size ≤ 100000 → Calls Tryd.prog 22 #[.string x, .int .i64 65535] w0 fun e w' => e = .returned (.tuple #[.int .i64 (CN x), .int .i64 (CE x)]) ∧ w0 = w') := Lib.hid (fun x w0 hx => by rw [hCN, hCE]; exact RCount_any x 65535 w0 (by unfold maxLen; omega) (by decide) (by decide))
  have n_aa : countN aa.data.toList 65535 = CN aa := by rw [hCN]
  have e_aa : countE aa.data.toList 65535 = CE aa := by rw [hCE]
  rw [e_aa] at hE
  have HR := Lib.hid (fun w0 => RRight_any ByteArray.empty ⟨#[117, 100, 112]⟩ (0) (countN aa.data.toList 65535) w0 (by decide))
  have e0 : rightB ⟨(ByteArray.empty : ByteArray).data.toList, 0, countN aa.data.toList 65535, (⟨#[117, 100, 112]⟩ : ByteArray).data.toList⟩ = false := hr
  rw [e0] at HR
  rw [n_aa] at HR
  clear e0 hr
  clear hCN hCE n_aa e_aa
  have HPB := Lib.hid (pb_new w ⟨#[]⟩ ⟨#[117, 100, 112]⟩ 0 0)
  clear hl
  go_enter Tryd.func8, Tryd.ntmps8
  go_upto_region 12 with (first
    | (go_at_call 21; refine (HC.out _).mono ?_; rintro e w3 ⟨v, rfl, hrd, hb, hfr⟩; obtain ⟨b, f, cap, rfl, q1, q2, q3, q4⟩ := rd_open (m := 0) hrd rfl; have q5 := hfr b rfl; have q6 := hb.size; have c0 := q4 0 (by simp); simp only [List.getElem_cons_zero, List.getElem_cons_succ, ba_of, Nat.add_zero] at c0; clear q4; have HP := Lib.hid (HPB.out.below hb); clear HPB hfr hrd; simp only [World.size_alloc] at q5; clear hb; obtain ⟨x0, x1, x2, x3⟩ := HP.out.2.2.cells; obtain ⟨z0, z1, z2, z3⟩ := HP.out.2.1.cells; obtain ⟨f0, f1, f2, f3⟩ := HP.out.2.2.frozen; obtain ⟨r0, r1, r2, r3⟩ := HP.out.2.1.frozen; have hsz := HP.out.size; unfold maxLen at q2)
    | (go_at_call 22; refine (HK.out _ _ (by assumption)).mono ?_; rintro e w4 ⟨rfl, rfl⟩))
  obtain ⟨W1, hW1⟩ : ∃ W, w3.setCell ⟨w.heap.size + 1, 2, none⟩ (.int .i64 (CN aa)) = W := ⟨_, rfl⟩
  rw [hW1]
  replace HP := Lib.hid (HP.out.inn (CN aa))
  rw [hW1] at HP
  replace c0 := (cell_othP (W := w3) (p := ⟨w.heap.size + 1, 2, none⟩) (q := ⟨b, f, none⟩) (by show b ≠ w.heap.size + 1; omega) (.int .i64 (CN aa))).trans c0
  rw [hW1] at c0
  clear x0 x1 x2 x3 z0 z1 z2 z3 f0 f1 f2 f3 r0 r1 r2 r3 hsz
  clear hW1
  obtain ⟨x0, x1, x2, x3⟩ := HP.out.2.2.cells; obtain ⟨z0, z1, z2, z3⟩ := HP.out.2.1.cells; obtain ⟨f0, f1, f2, f3⟩ := HP.out.2.2.frozen; obtain ⟨r0, r1, r2, r3⟩ := HP.out.2.1.frozen; have hsz := HP.out.size
  go_wp2_with (go_at_call 11; refine (HR.out _).mono ?_; rintro e w5 ⟨rfl, hb⟩; clear x0 x1 x2 x3 z0 z1 z2 z3 f0 f1 f2 f3 r0 r1 r2 r3 hsz; replace HP := Lib.hid (HP.out.below hb); clear hb; obtain ⟨x0, x1, x2, x3⟩ := HP.out.2.2.cells; obtain ⟨z0, z1, z2, z3⟩ := HP.out.2.1.cells; obtain ⟨f0, f1, f2, f3⟩ := HP.out.2.2.frozen; obtain ⟨r0, r1, r2, r3⟩ := HP.out.2.1.frozen; have hsz := HP.out.size)
  have HF := pb_end HP.out (.string ⟨#[]⟩) (.int .i64 0) (.int .i64 0) (.string ⟨#[]⟩)
  obtain ⟨y0, y1, y2, y3⟩ := HF.2.cells
  exact bodyPost_ret (v := .tuple #[.agg #[.string ⟨#[]⟩, .int .i64 0, .int .i64 0, .string ⟨#[]⟩], .int .i64 3]) (by simp [results, Tryd.results8, go_sem, y0, y1, y2, y3]) rfl ⟨rfl, HF.1⟩
set_option maxRecDepth 100000 in
set_option maxHeartbeats 8000000 in
theorem RPs_d_k1g (s S : ByteArray) (hs : s.size ≤ 100000) (hSs : S.size ≤ 100000) (m : Nat) (hm : s.size = m + 4) (hm0 : 0 < m) (hQ : s.extract m s.size = ⟨#[47, 117, 100, 112]⟩) (hP : s.extract (m + 1) s.size = ⟨#[117, 100, 112]⟩) (hS : s.extract 0 m = S) (aa : ByteArray) (hl : cutL 58 S.data.toList = [aa.data.toList]) (hE : countE aa.data.toList 65535 = 0) (hr : rightB ⟨[], 0, countN aa.data.toList 65535, udpL⟩ = true) (w : World) :
    Calls Tryd.prog 8 #[.string s] w fun e w' => e = .returned (.tuple #[.agg #[.string ⟨#[]⟩, .int .i64 (0), .int .i64 (countN aa.data.toList 65535), .string ⟨#[117, 100, 112]⟩], .int .i64 0]) ∧ Below w.heap.size w w' := by
  obtain ⟨n, hn⟩ : ∃ n, s.size = n := ⟨_, rfl⟩
  obtain ⟨m1, hm1⟩ : ∃ m1, m + 1 = m1 := ⟨_, rfl⟩
  rw [hn] at hQ hP hm
  rw [hm1] at hP
  have h4 : (4 : Int) < (n : Int) := by omega
  have h4n : 4 < n := by omega
  have kw4 : IntKind.i64.wrap ((n : Int) - 4) = (m : Int) := by rw [show (n : Int) - 4 = (m : Int) by omega]; exact IntWalk.i64_in _ (by omega)
  have kw3 : IntKind.i64.wrap ((n : Int) - 3) = (m1 : Int) := by rw [show (n : Int) - 3 = (m1 : Int) by omega]; exact IntWalk.i64_in _ (by omega)
  have hmn : (m : Int) ≤ (n : Int) := by omega
  have hmn2 : m ≤ n := by omega
  have hmn3 : (m1 : Int) ≤ (n : Int) := by omega
  have hmn4 : m1 ≤ n := by omega
  clear hm hm1 hm0
  have HC := Lib.hid (fun w0 => RCut16_any S 58 w0 hSs)
  rw [hl] at HC
  have hall : ∀ x ∈ cutL 58 S.data.toList, x.length ≤ 100000 := fun x hx => by
    have h9 := cutA_size 58 S.data.toList [] x hx
    rw [show S.data.toList.length = S.size from rfl] at h9
    simp at h9; omega
  rw [hl] at hall
  have aas : aa.size ≤ 100000 := hall aa.data.toList (by simp)
  clear hall
  obtain ⟨CN, hCN⟩ : ∃ CN : ByteArray → Int, CN = fun x => countN x.data.toList 65535 := ⟨_, rfl⟩
  obtain ⟨CE, hCE⟩ : ∃ CE : ByteArray → Int, CE = fun x => countE x.data.toList 65535 := ⟨_, rfl⟩
  have HK : Hid (∀ (x : ByteArray) (w0 : World), x.size ≤ 100000 → Calls Tryd.prog 22 #[.string x, .int .i64 65535] w0 fun e w' => e = .returned (.tuple #[.int .i64 (CN x), .int .i64 (CE x)]) ∧ w0 = w') := Lib.hid (fun x w0 hx => by rw [hCN, hCE]; exact RCount_any x 65535 w0 (by unfold maxLen; omega) (by decide) (by decide))
  have n_aa : countN aa.data.toList 65535 = CN aa := by rw [hCN]
  have e_aa : countE aa.data.toList 65535 = CE aa := by rw [hCE]
  rw [e_aa] at hE
  rw [n_aa]
  have HR := Lib.hid (fun w0 => RRight_any ByteArray.empty ⟨#[117, 100, 112]⟩ (0) (countN aa.data.toList 65535) w0 (by decide))
  have e0 : rightB ⟨(ByteArray.empty : ByteArray).data.toList, 0, countN aa.data.toList 65535, (⟨#[117, 100, 112]⟩ : ByteArray).data.toList⟩ = true := hr
  rw [e0] at HR
  rw [n_aa] at HR
  clear e0 hr
  clear hCN hCE n_aa e_aa
  have HPB := Lib.hid (pb_new w ⟨#[]⟩ ⟨#[117, 100, 112]⟩ 0 0)
  clear hl
  go_enter Tryd.func8, Tryd.ntmps8
  go_upto_region 12 with (first
    | (go_at_call 21; refine (HC.out _).mono ?_; rintro e w3 ⟨v, rfl, hrd, hb, hfr⟩; obtain ⟨b, f, cap, rfl, q1, q2, q3, q4⟩ := rd_open (m := 0) hrd rfl; have q5 := hfr b rfl; have q6 := hb.size; have c0 := q4 0 (by simp); simp only [List.getElem_cons_zero, List.getElem_cons_succ, ba_of, Nat.add_zero] at c0; clear q4; have HP := Lib.hid (HPB.out.below hb); clear HPB hfr hrd; simp only [World.size_alloc] at q5; clear hb; obtain ⟨x0, x1, x2, x3⟩ := HP.out.2.2.cells; obtain ⟨z0, z1, z2, z3⟩ := HP.out.2.1.cells; obtain ⟨f0, f1, f2, f3⟩ := HP.out.2.2.frozen; obtain ⟨r0, r1, r2, r3⟩ := HP.out.2.1.frozen; have hsz := HP.out.size; unfold maxLen at q2)
    | (go_at_call 22; refine (HK.out _ _ (by assumption)).mono ?_; rintro e w4 ⟨rfl, rfl⟩))
  obtain ⟨W1, hW1⟩ : ∃ W, w3.setCell ⟨w.heap.size + 1, 2, none⟩ (.int .i64 (CN aa)) = W := ⟨_, rfl⟩
  rw [hW1]
  replace HP := Lib.hid (HP.out.inn (CN aa))
  rw [hW1] at HP
  replace c0 := (cell_othP (W := w3) (p := ⟨w.heap.size + 1, 2, none⟩) (q := ⟨b, f, none⟩) (by show b ≠ w.heap.size + 1; omega) (.int .i64 (CN aa))).trans c0
  rw [hW1] at c0
  clear x0 x1 x2 x3 z0 z1 z2 z3 f0 f1 f2 f3 r0 r1 r2 r3 hsz
  clear hW1
  obtain ⟨x0, x1, x2, x3⟩ := HP.out.2.2.cells; obtain ⟨z0, z1, z2, z3⟩ := HP.out.2.1.cells; obtain ⟨f0, f1, f2, f3⟩ := HP.out.2.2.frozen; obtain ⟨r0, r1, r2, r3⟩ := HP.out.2.1.frozen; have hsz := HP.out.size
  go_wp2_with (go_at_call 11; refine (HR.out _).mono ?_; rintro e w5 ⟨rfl, hb⟩; clear x0 x1 x2 x3 z0 z1 z2 z3 f0 f1 f2 f3 r0 r1 r2 r3 hsz; replace HP := Lib.hid (HP.out.below hb); clear hb; obtain ⟨x0, x1, x2, x3⟩ := HP.out.2.2.cells; obtain ⟨z0, z1, z2, z3⟩ := HP.out.2.1.cells; obtain ⟨f0, f1, f2, f3⟩ := HP.out.2.2.frozen; obtain ⟨r0, r1, r2, r3⟩ := HP.out.2.1.frozen; have hsz := HP.out.size)
  have HF := pb_end HP.out (.string ⟨#[]⟩) (.int .i64 (0)) (.int .i64 (CN aa)) (.string ⟨#[117, 100, 112]⟩)
  obtain ⟨y0, y1, y2, y3⟩ := HF.2.cells
  exact bodyPost_ret (v := .tuple #[.agg #[.string ⟨#[]⟩, .int .i64 (0), .int .i64 (CN aa), .string ⟨#[117, 100, 112]⟩], .int .i64 0]) (by simp [results, Tryd.results8, go_sem, y0, y1, y2, y3]) rfl ⟨rfl, HF.1⟩
set_option maxRecDepth 100000 in
set_option maxHeartbeats 8000000 in
theorem RPs_d_k2f (s S : ByteArray) (hs : s.size ≤ 100000) (hSs : S.size ≤ 100000) (m : Nat) (hm : s.size = m + 4) (hm0 : 0 < m) (hQ : s.extract m s.size = ⟨#[47, 117, 100, 112]⟩) (hP : s.extract (m + 1) s.size = ⟨#[117, 100, 112]⟩) (hS : s.extract 0 m = S) (oo aa : ByteArray) (hl : cutL 58 S.data.toList = [oo.data.toList, aa.data.toList]) (hF : ¬ countE oo.data.toList 65535 = 0) (w : World) :
    Calls Tryd.prog 8 #[.string s] w fun e w' => e = .returned (.tuple #[.agg #[.string ⟨#[]⟩, .int .i64 0, .int .i64 0, .string ⟨#[]⟩], .int .i64 3]) ∧ Below w.heap.size w w' := by
  obtain ⟨n, hn⟩ : ∃ n, s.size = n := ⟨_, rfl⟩
  obtain ⟨m1, hm1⟩ : ∃ m1, m + 1 = m1 := ⟨_, rfl⟩
  rw [hn] at hQ hP hm
  rw [hm1] at hP
  have h4 : (4 : Int) < (n : Int) := by omega
  have h4n : 4 < n := by omega
  have kw4 : IntKind.i64.wrap ((n : Int) - 4) = (m : Int) := by rw [show (n : Int) - 4 = (m : Int) by omega]; exact IntWalk.i64_in _ (by omega)
  have kw3 : IntKind.i64.wrap ((n : Int) - 3) = (m1 : Int) := by rw [show (n : Int) - 3 = (m1 : Int) by omega]; exact IntWalk.i64_in _ (by omega)
  have hmn : (m : Int) ≤ (n : Int) := by omega
  have hmn2 : m ≤ n := by omega
  have hmn3 : (m1 : Int) ≤ (n : Int) := by omega
  have hmn4 : m1 ≤ n := by omega
  clear hm hm1 hm0
  have HC := Lib.hid (fun w0 => RCut16_any S 58 w0 hSs)
  rw [hl] at HC
  have hall : ∀ x ∈ cutL 58 S.data.toList, x.length ≤ 100000 := fun x hx => by
    have h9 := cutA_size 58 S.data.toList [] x hx
    rw [show S.data.toList.length = S.size from rfl] at h9
    simp at h9; omega
  rw [hl] at hall
  have oos : oo.size ≤ 100000 := hall oo.data.toList (by simp)
  have aas : aa.size ≤ 100000 := hall aa.data.toList (by simp)
  clear hall
  obtain ⟨CN, hCN⟩ : ∃ CN : ByteArray → Int, CN = fun x => countN x.data.toList 65535 := ⟨_, rfl⟩
  obtain ⟨CE, hCE⟩ : ∃ CE : ByteArray → Int, CE = fun x => countE x.data.toList 65535 := ⟨_, rfl⟩
  have HK : Hid (∀ (x : ByteArray) (w0 : World), x.size ≤ 100000 → Calls Tryd.prog 22 #[.string x, .int .i64 65535] w0 fun e w' => e = .returned (.tuple #[.int .i64 (CN x), .int .i64 (CE x)]) ∧ w0 = w') := Lib.hid (fun x w0 hx => by rw [hCN, hCE]; exact RCount_any x 65535 w0 (by unfold maxLen; omega) (by decide) (by decide))
  have n_oo : countN oo.data.toList 65535 = CN oo := by rw [hCN]
  have e_oo : countE oo.data.toList 65535 = CE oo := by rw [hCE]
  have n_aa : countN aa.data.toList 65535 = CN aa := by rw [hCN]
  have e_aa : countE aa.data.toList 65535 = CE aa := by rw [hCE]
  rw [e_oo] at hF
  clear hCN hCE n_oo e_oo n_aa e_aa
  have F1 : (CE oo == 0) = false := beq_eq_false_iff_ne.2 hF
  have F2 : (CE oo != 0) = true := bne_iff_ne.2 hF
  have HPB := Lib.hid (pb_new w ⟨#[]⟩ ⟨#[117, 100, 112]⟩ 0 0)
  clear hl
  go_enter Tryd.func8, Tryd.ntmps8
  go_upto_region 12 with (first
    | (go_at_call 21; refine (HC.out _).mono ?_; rintro e w3 ⟨v, rfl, hrd, hb, hfr⟩; obtain ⟨b, f, cap, rfl, q1, q2, q3, q4⟩ := rd_open (m := 1) hrd rfl; have q5 := hfr b rfl; have q6 := hb.size; have c0 := q4 0 (by simp); have c1 := q4 1 (by simp); simp only [List.getElem_cons_zero, List.getElem_cons_succ, ba_of, Nat.add_zero] at c0 c1; clear q4; have HP := Lib.hid (HPB.out.below hb); clear HPB hfr hrd; simp only [World.size_alloc] at q5; clear hb; obtain ⟨x0, x1, x2, x3⟩ := HP.out.2.2.cells; obtain ⟨z0, z1, z2, z3⟩ := HP.out.2.1.cells; obtain ⟨f0, f1, f2, f3⟩ := HP.out.2.2.frozen; obtain ⟨r0, r1, r2, r3⟩ := HP.out.2.1.frozen; have hsz := HP.out.size; unfold maxLen at q2)
    | (go_at_call 22; refine (HK.out _ _ (by assumption)).mono ?_; rintro e w4 ⟨rfl, rfl⟩))
  obtain ⟨W1, hW1⟩ : ∃ W, w3.setCell ⟨w.heap.size + 1, 2, none⟩ (.int .i64 (CN aa)) = W := ⟨_, rfl⟩
  rw [hW1]
  replace HP := Lib.hid (HP.out.inn (CN aa))
  rw [hW1] at HP
  replace c0 := (cell_othP (W := w3) (p := ⟨w.heap.size + 1, 2, none⟩) (q := ⟨b, f, none⟩) (by show b ≠ w.heap.size + 1; omega) (.int .i64 (CN aa))).trans c0
  rw [hW1] at c0
  replace c1 := (cell_othP (W := w3) (p := ⟨w.heap.size + 1, 2, none⟩) (q := ⟨b, f + 1, none⟩) (by show b ≠ w.heap.size + 1; omega) (.int .i64 (CN aa))).trans c1
  rw [hW1] at c1
  clear x0 x1 x2 x3 z0 z1 z2 z3 f0 f1 f2 f3 r0 r1 r2 r3 hsz
  clear hW1
  obtain ⟨x0, x1, x2, x3⟩ := HP.out.2.2.cells; obtain ⟨z0, z1, z2, z3⟩ := HP.out.2.1.cells; obtain ⟨f0, f1, f2, f3⟩ := HP.out.2.2.frozen; obtain ⟨r0, r1, r2, r3⟩ := HP.out.2.1.frozen; have hsz := HP.out.size
  go_upto_region 15 with (go_at_call 22; refine (HK.out _ _ (by assumption)).mono ?_; rintro e w4 ⟨rfl, rfl⟩)
  obtain ⟨W2, hW2⟩ : ∃ W, W1.setCell ⟨w.heap.size + 1, 1, none⟩ (.int .i64 (CN oo)) = W := ⟨_, rfl⟩
  rw [hW2]
  replace HP := Lib.hid (HP.out.out (CN oo))
  rw [hW2] at HP
  replace c0 := (cell_othP (W := W1) (p := ⟨w.heap.size + 1, 1, none⟩) (q := ⟨b, f, none⟩) (by show b ≠ w.heap.size + 1; omega) (.int .i64 (CN oo))).trans c0
  rw [hW2] at c0
  replace c1 := (cell_othP (W := W1) (p := ⟨w.heap.size + 1, 1, none⟩) (q := ⟨b, f + 1, none⟩) (by show b ≠ w.heap.size + 1; omega) (.int .i64 (CN oo))).trans c1
  rw [hW2] at c1
  clear x0 x1 x2 x3 z0 z1 z2 z3 f0 f1 f2 f3 r0 r1 r2 r3 hsz
  clear hW2
  obtain ⟨x0, x1, x2, x3⟩ := HP.out.2.2.cells; obtain ⟨z0, z1, z2, z3⟩ := HP.out.2.1.cells; obtain ⟨f0, f1, f2, f3⟩ := HP.out.2.2.frozen; obtain ⟨r0, r1, r2, r3⟩ := HP.out.2.1.frozen; have hsz := HP.out.size
  go_wp2
  have HF := pb_end HP.out (.string ⟨#[]⟩) (.int .i64 0) (.int .i64 0) (.string ⟨#[]⟩)
  obtain ⟨y0, y1, y2, y3⟩ := HF.2.cells
  exact bodyPost_ret (v := .tuple #[.agg #[.string ⟨#[]⟩, .int .i64 0, .int .i64 0, .string ⟨#[]⟩], .int .i64 3]) (by simp [results, Tryd.results8, go_sem, y0, y1, y2, y3]) rfl ⟨rfl, HF.1⟩
set_option maxRecDepth 100000 in
set_option maxHeartbeats 8000000 in
theorem RPs_d_k2z (s S : ByteArray) (hs : s.size ≤ 100000) (hSs : S.size ≤ 100000) (m : Nat) (hm : s.size = m + 4) (hm0 : 0 < m) (hQ : s.extract m s.size = ⟨#[47, 117, 100, 112]⟩) (hP : s.extract (m + 1) s.size = ⟨#[117, 100, 112]⟩) (hS : s.extract 0 m = S) (oo aa : ByteArray) (hl : cutL 58 S.data.toList = [oo.data.toList, aa.data.toList]) (hF : countE oo.data.toList 65535 = 0) (hZ : countN oo.data.toList 65535 = 0) (w : World) :
    Calls Tryd.prog 8 #[.string s] w fun e w' => e = .returned (.tuple #[.agg #[.string ⟨#[]⟩, .int .i64 0, .int .i64 0, .string ⟨#[]⟩], .int .i64 3]) ∧ Below w.heap.size w w' := by
  obtain ⟨n, hn⟩ : ∃ n, s.size = n := ⟨_, rfl⟩
  obtain ⟨m1, hm1⟩ : ∃ m1, m + 1 = m1 := ⟨_, rfl⟩
  rw [hn] at hQ hP hm
  rw [hm1] at hP
  have h4 : (4 : Int) < (n : Int) := by omega
  have h4n : 4 < n := by omega
  have kw4 : IntKind.i64.wrap ((n : Int) - 4) = (m : Int) := by rw [show (n : Int) - 4 = (m : Int) by omega]; exact IntWalk.i64_in _ (by omega)
  have kw3 : IntKind.i64.wrap ((n : Int) - 3) = (m1 : Int) := by rw [show (n : Int) - 3 = (m1 : Int) by omega]; exact IntWalk.i64_in _ (by omega)
  have hmn : (m : Int) ≤ (n : Int) := by omega
  have hmn2 : m ≤ n := by omega
  have hmn3 : (m1 : Int) ≤ (n : Int) := by omega
  have hmn4 : m1 ≤ n := by omega
  clear hm hm1 hm0
  have HC := Lib.hid (fun w0 => RCut16_any S 58 w0 hSs)
  rw [hl] at HC
  have hall : ∀ x ∈ cutL 58 S.data.toList, x.length ≤ 100000 := fun x hx => by
    have h9 := cutA_size 58 S.data.toList [] x hx
    rw [show S.data.toList.length = S.size from rfl] at h9
    simp at h9; omega
  rw [hl] at hall
  have oos : oo.size ≤ 100000 := hall oo.data.toList (by simp)
  have aas : aa.size ≤ 100000 := hall aa.data.toList (by simp)
  clear hall
  obtain ⟨CN, hCN⟩ : ∃ CN : ByteArray → Int, CN = fun x => countN x.data.toList 65535 := ⟨_, rfl⟩
  obtain ⟨CE, hCE⟩ : ∃ CE : ByteArray → Int, CE = fun x => countE x.data.toList 65535 := ⟨_, rfl⟩
  have HK : Hid (∀ (x : ByteArray) (w0 : World), x.size ≤ 100000 → Calls Tryd.prog 22 #[.string x, .int .i64 65535] w0 fun e w' => e = .returned (.tuple #[.int .i64 (CN x), .int .i64 (CE x)]) ∧ w0 = w') := Lib.hid (fun x w0 hx => by rw [hCN, hCE]; exact RCount_any x 65535 w0 (by unfold maxLen; omega) (by decide) (by decide))
  have n_oo : countN oo.data.toList 65535 = CN oo := by rw [hCN]
  have e_oo : countE oo.data.toList 65535 = CE oo := by rw [hCE]
  have n_aa : countN aa.data.toList 65535 = CN aa := by rw [hCN]
  have e_aa : countE aa.data.toList 65535 = CE aa := by rw [hCE]
  rw [e_oo] at hF
  rw [n_oo] at hZ
  clear hCN hCE n_oo e_oo n_aa e_aa
  have HPB := Lib.hid (pb_new w ⟨#[]⟩ ⟨#[117, 100, 112]⟩ 0 0)
  clear hl
  go_enter Tryd.func8, Tryd.ntmps8
  go_upto_region 12 with (first
    | (go_at_call 21; refine (HC.out _).mono ?_; rintro e w3 ⟨v, rfl, hrd, hb, hfr⟩; obtain ⟨b, f, cap, rfl, q1, q2, q3, q4⟩ := rd_open (m := 1) hrd rfl; have q5 := hfr b rfl; have q6 := hb.size; have c0 := q4 0 (by simp); have c1 := q4 1 (by simp); simp only [List.getElem_cons_zero, List.getElem_cons_succ, ba_of, Nat.add_zero] at c0 c1; clear q4; have HP := Lib.hid (HPB.out.below hb); clear HPB hfr hrd; simp only [World.size_alloc] at q5; clear hb; obtain ⟨x0, x1, x2, x3⟩ := HP.out.2.2.cells; obtain ⟨z0, z1, z2, z3⟩ := HP.out.2.1.cells; obtain ⟨f0, f1, f2, f3⟩ := HP.out.2.2.frozen; obtain ⟨r0, r1, r2, r3⟩ := HP.out.2.1.frozen; have hsz := HP.out.size; unfold maxLen at q2)
    | (go_at_call 22; refine (HK.out _ _ (by assumption)).mono ?_; rintro e w4 ⟨rfl, rfl⟩))
  obtain ⟨W1, hW1⟩ : ∃ W, w3.setCell ⟨w.heap.size + 1, 2, none⟩ (.int .i64 (CN aa)) = W := ⟨_, rfl⟩
  rw [hW1]
  replace HP := Lib.hid (HP.out.inn (CN aa))
  rw [hW1] at HP
  replace c0 := (cell_othP (W := w3) (p := ⟨w.heap.size + 1, 2, none⟩) (q := ⟨b, f, none⟩) (by show b ≠ w.heap.size + 1; omega) (.int .i64 (CN aa))).trans c0
  rw [hW1] at c0
  replace c1 := (cell_othP (W := w3) (p := ⟨w.heap.size + 1, 2, none⟩) (q := ⟨b, f + 1, none⟩) (by show b ≠ w.heap.size + 1; omega) (.int .i64 (CN aa))).trans c1
  rw [hW1] at c1
  clear x0 x1 x2 x3 z0 z1 z2 z3 f0 f1 f2 f3 r0 r1 r2 r3 hsz
  clear hW1
  obtain ⟨x0, x1, x2, x3⟩ := HP.out.2.2.cells; obtain ⟨z0, z1, z2, z3⟩ := HP.out.2.1.cells; obtain ⟨f0, f1, f2, f3⟩ := HP.out.2.2.frozen; obtain ⟨r0, r1, r2, r3⟩ := HP.out.2.1.frozen; have hsz := HP.out.size
  go_upto_region 15 with (go_at_call 22; refine (HK.out _ _ (by assumption)).mono ?_; rintro e w4 ⟨rfl, rfl⟩)
  obtain ⟨W2, hW2⟩ : ∃ W, W1.setCell ⟨w.heap.size + 1, 1, none⟩ (.int .i64 0) = W := ⟨_, rfl⟩
  rw [hW2]
  replace HP := Lib.hid (HP.out.out 0)
  rw [hW2] at HP
  replace c0 := (cell_othP (W := W1) (p := ⟨w.heap.size + 1, 1, none⟩) (q := ⟨b, f, none⟩) (by show b ≠ w.heap.size + 1; omega) (.int .i64 0)).trans c0
  rw [hW2] at c0
  replace c1 := (cell_othP (W := W1) (p := ⟨w.heap.size + 1, 1, none⟩) (q := ⟨b, f + 1, none⟩) (by show b ≠ w.heap.size + 1; omega) (.int .i64 0)).trans c1
  rw [hW2] at c1
  clear x0 x1 x2 x3 z0 z1 z2 z3 f0 f1 f2 f3 r0 r1 r2 r3 hsz
  clear hW2
  obtain ⟨x0, x1, x2, x3⟩ := HP.out.2.2.cells; obtain ⟨z0, z1, z2, z3⟩ := HP.out.2.1.cells; obtain ⟨f0, f1, f2, f3⟩ := HP.out.2.2.frozen; obtain ⟨r0, r1, r2, r3⟩ := HP.out.2.1.frozen; have hsz := HP.out.size
  go_wp2
  have HF := pb_end HP.out (.string ⟨#[]⟩) (.int .i64 0) (.int .i64 0) (.string ⟨#[]⟩)
  obtain ⟨y0, y1, y2, y3⟩ := HF.2.cells
  exact bodyPost_ret (v := .tuple #[.agg #[.string ⟨#[]⟩, .int .i64 0, .int .i64 0, .string ⟨#[]⟩], .int .i64 3]) (by simp [results, Tryd.results8, go_sem, y0, y1, y2, y3]) rfl ⟨rfl, HF.1⟩
set_option maxRecDepth 100000 in
set_option maxHeartbeats 8000000 in
theorem RPs_d_k2e (s S : ByteArray) (hs : s.size ≤ 100000) (hSs : S.size ≤ 100000) (m : Nat) (hm : s.size = m + 4) (hm0 : 0 < m) (hQ : s.extract m s.size = ⟨#[47, 117, 100, 112]⟩) (hP : s.extract (m + 1) s.size = ⟨#[117, 100, 112]⟩) (hS : s.extract 0 m = S) (oo aa : ByteArray) (hl : cutL 58 S.data.toList = [oo.data.toList, aa.data.toList]) (hF : countE oo.data.toList 65535 = 0) (hZ : ¬ countN oo.data.toList 65535 = 0) (hE : ¬ countE aa.data.toList 65535 = 0) (w : World) :
    Calls Tryd.prog 8 #[.string s] w fun e w' => e = .returned (.tuple #[.agg #[.string ⟨#[]⟩, .int .i64 0, .int .i64 0, .string ⟨#[]⟩], .int .i64 3]) ∧ Below w.heap.size w w' := by
  obtain ⟨n, hn⟩ : ∃ n, s.size = n := ⟨_, rfl⟩
  obtain ⟨m1, hm1⟩ : ∃ m1, m + 1 = m1 := ⟨_, rfl⟩
  rw [hn] at hQ hP hm
  rw [hm1] at hP
  have h4 : (4 : Int) < (n : Int) := by omega
  have h4n : 4 < n := by omega
  have kw4 : IntKind.i64.wrap ((n : Int) - 4) = (m : Int) := by rw [show (n : Int) - 4 = (m : Int) by omega]; exact IntWalk.i64_in _ (by omega)
  have kw3 : IntKind.i64.wrap ((n : Int) - 3) = (m1 : Int) := by rw [show (n : Int) - 3 = (m1 : Int) by omega]; exact IntWalk.i64_in _ (by omega)
  have hmn : (m : Int) ≤ (n : Int) := by omega
  have hmn2 : m ≤ n := by omega
  have hmn3 : (m1 : Int) ≤ (n : Int) := by omega
  have hmn4 : m1 ≤ n := by omega
  clear hm hm1 hm0
  have HC := Lib.hid (fun w0 => RCut16_any S 58 w0 hSs)
  rw [hl] at HC
  have hall : ∀ x ∈ cutL 58 S.data.toList, x.length ≤ 100000 := fun x hx => by
    have h9 := cutA_size 58 S.data.toList [] x hx
    rw [show S.data.toList.length = S.size from rfl] at h9
    simp at h9; omega
  rw [hl] at hall
  have oos : oo.size ≤ 100000 := hall oo.data.toList (by simp)
  have aas : aa.size ≤ 100000 := hall aa.data.toList (by simp)
  clear hall
  obtain ⟨CN, hCN⟩ : ∃ CN : ByteArray → Int, CN = fun x => countN x.data.toList 65535 := ⟨_, rfl⟩
  obtain ⟨CE, hCE⟩ : ∃ CE : ByteArray → Int, CE = fun x => countE x.data.toList 65535 := ⟨_, rfl⟩
  have HK : Hid (∀ (x : ByteArray) (w0 : World), x.size ≤ 100000 → Calls Tryd.prog 22 #[.string x, .int .i64 65535] w0 fun e w' => e = .returned (.tuple #[.int .i64 (CN x), .int .i64 (CE x)]) ∧ w0 = w') := Lib.hid (fun x w0 hx => by rw [hCN, hCE]; exact RCount_any x 65535 w0 (by unfold maxLen; omega) (by decide) (by decide))
  have n_oo : countN oo.data.toList 65535 = CN oo := by rw [hCN]
  have e_oo : countE oo.data.toList 65535 = CE oo := by rw [hCE]
  have n_aa : countN aa.data.toList 65535 = CN aa := by rw [hCN]
  have e_aa : countE aa.data.toList 65535 = CE aa := by rw [hCE]
  rw [e_oo] at hF
  rw [n_oo] at hZ
  rw [e_aa] at hE
  clear hCN hCE n_oo e_oo n_aa e_aa
  have Z1 : (CN oo == 0) = false := beq_eq_false_iff_ne.2 hZ
  have E1 : (CE aa == 0) = false := beq_eq_false_iff_ne.2 hE
  have E2 : (CE aa != 0) = true := bne_iff_ne.2 hE
  have HPB := Lib.hid (pb_new w ⟨#[]⟩ ⟨#[117, 100, 112]⟩ 0 0)
  clear hl
  go_enter Tryd.func8, Tryd.ntmps8
  go_upto_region 12 with (first
    | (go_at_call 21; refine (HC.out _).mono ?_; rintro e w3 ⟨v, rfl, hrd, hb, hfr⟩; obtain ⟨b, f, cap, rfl, q1, q2, q3, q4⟩ := rd_open (m := 1) hrd rfl; have q5 := hfr b rfl; have q6 := hb.size; have c0 := q4 0 (by simp); have c1 := q4 1 (by simp); simp only [List.getElem_cons_zero, List.getElem_cons_succ, ba_of, Nat.add_zero] at c0 c1; clear q4; have HP := Lib.hid (HPB.out.below hb); clear HPB hfr hrd; simp only [World.size_alloc] at q5; clear hb; obtain ⟨x0, x1, x2, x3⟩ := HP.out.2.2.cells; obtain ⟨z0, z1, z2, z3⟩ := HP.out.2.1.cells; obtain ⟨f0, f1, f2, f3⟩ := HP.out.2.2.frozen; obtain ⟨r0, r1, r2, r3⟩ := HP.out.2.1.frozen; have hsz := HP.out.size; unfold maxLen at q2)
    | (go_at_call 22; refine (HK.out _ _ (by assumption)).mono ?_; rintro e w4 ⟨rfl, rfl⟩))
  obtain ⟨W1, hW1⟩ : ∃ W, w3.setCell ⟨w.heap.size + 1, 2, none⟩ (.int .i64 (CN aa)) = W := ⟨_, rfl⟩
  rw [hW1]
  replace HP := Lib.hid (HP.out.inn (CN aa))
  rw [hW1] at HP
  replace c0 := (cell_othP (W := w3) (p := ⟨w.heap.size + 1, 2, none⟩) (q := ⟨b, f, none⟩) (by show b ≠ w.heap.size + 1; omega) (.int .i64 (CN aa))).trans c0
  rw [hW1] at c0
  replace c1 := (cell_othP (W := w3) (p := ⟨w.heap.size + 1, 2, none⟩) (q := ⟨b, f + 1, none⟩) (by show b ≠ w.heap.size + 1; omega) (.int .i64 (CN aa))).trans c1
  rw [hW1] at c1
  clear x0 x1 x2 x3 z0 z1 z2 z3 f0 f1 f2 f3 r0 r1 r2 r3 hsz
  clear hW1
  obtain ⟨x0, x1, x2, x3⟩ := HP.out.2.2.cells; obtain ⟨z0, z1, z2, z3⟩ := HP.out.2.1.cells; obtain ⟨f0, f1, f2, f3⟩ := HP.out.2.2.frozen; obtain ⟨r0, r1, r2, r3⟩ := HP.out.2.1.frozen; have hsz := HP.out.size
  go_upto_region 15 with (go_at_call 22; refine (HK.out _ _ (by assumption)).mono ?_; rintro e w4 ⟨rfl, rfl⟩)
  obtain ⟨W2, hW2⟩ : ∃ W, W1.setCell ⟨w.heap.size + 1, 1, none⟩ (.int .i64 (CN oo)) = W := ⟨_, rfl⟩
  rw [hW2]
  replace HP := Lib.hid (HP.out.out (CN oo))
  rw [hW2] at HP
  replace c0 := (cell_othP (W := W1) (p := ⟨w.heap.size + 1, 1, none⟩) (q := ⟨b, f, none⟩) (by show b ≠ w.heap.size + 1; omega) (.int .i64 (CN oo))).trans c0
  rw [hW2] at c0
  replace c1 := (cell_othP (W := W1) (p := ⟨w.heap.size + 1, 1, none⟩) (q := ⟨b, f + 1, none⟩) (by show b ≠ w.heap.size + 1; omega) (.int .i64 (CN oo))).trans c1
  rw [hW2] at c1
  clear x0 x1 x2 x3 z0 z1 z2 z3 f0 f1 f2 f3 r0 r1 r2 r3 hsz
  clear hW2
  obtain ⟨x0, x1, x2, x3⟩ := HP.out.2.2.cells; obtain ⟨z0, z1, z2, z3⟩ := HP.out.2.1.cells; obtain ⟨f0, f1, f2, f3⟩ := HP.out.2.2.frozen; obtain ⟨r0, r1, r2, r3⟩ := HP.out.2.1.frozen; have hsz := HP.out.size
  go_wp2
  have HF := pb_end HP.out (.string ⟨#[]⟩) (.int .i64 0) (.int .i64 0) (.string ⟨#[]⟩)
  obtain ⟨y0, y1, y2, y3⟩ := HF.2.cells
  exact bodyPost_ret (v := .tuple #[.agg #[.string ⟨#[]⟩, .int .i64 0, .int .i64 0, .string ⟨#[]⟩], .int .i64 3]) (by simp [results, Tryd.results8, go_sem, y0, y1, y2, y3]) rfl ⟨rfl, HF.1⟩
set_option maxRecDepth 100000 in
set_option maxHeartbeats 8000000 in
theorem RPs_d_k2r (s S : ByteArray) (hs : s.size ≤ 100000) (hSs : S.size ≤ 100000) (m : Nat) (hm : s.size = m + 4) (hm0 : 0 < m) (hQ : s.extract m s.size = ⟨#[47, 117, 100, 112]⟩) (hP : s.extract (m + 1) s.size = ⟨#[117, 100, 112]⟩) (hS : s.extract 0 m = S) (oo aa : ByteArray) (hl : cutL 58 S.data.toList = [oo.data.toList, aa.data.toList]) (hF : countE oo.data.toList 65535 = 0) (hZ : ¬ countN oo.data.toList 65535 = 0) (hE : countE aa.data.toList 65535 = 0) (hr : rightB ⟨[], countN oo.data.toList 65535, countN aa.data.toList 65535, udpL⟩ = false) (w : World) :
    Calls Tryd.prog 8 #[.string s] w fun e w' => e = .returned (.tuple #[.agg #[.string ⟨#[]⟩, .int .i64 0, .int .i64 0, .string ⟨#[]⟩], .int .i64 3]) ∧ Below w.heap.size w w' := by
  obtain ⟨n, hn⟩ : ∃ n, s.size = n := ⟨_, rfl⟩
  obtain ⟨m1, hm1⟩ : ∃ m1, m + 1 = m1 := ⟨_, rfl⟩
  rw [hn] at hQ hP hm
  rw [hm1] at hP
  have h4 : (4 : Int) < (n : Int) := by omega
  have h4n : 4 < n := by omega
  have kw4 : IntKind.i64.wrap ((n : Int) - 4) = (m : Int) := by rw [show (n : Int) - 4 = (m : Int) by omega]; exact IntWalk.i64_in _ (by omega)
  have kw3 : IntKind.i64.wrap ((n : Int) - 3) = (m1 : Int) := by rw [show (n : Int) - 3 = (m1 : Int) by omega]; exact IntWalk.i64_in _ (by omega)
  have hmn : (m : Int) ≤ (n : Int) := by omega
  have hmn2 : m ≤ n := by omega
  have hmn3 : (m1 : Int) ≤ (n : Int) := by omega
  have hmn4 : m1 ≤ n := by omega
  clear hm hm1 hm0
  have HC := Lib.hid (fun w0 => RCut16_any S 58 w0 hSs)
  rw [hl] at HC
  have hall : ∀ x ∈ cutL 58 S.data.toList, x.length ≤ 100000 := fun x hx => by
    have h9 := cutA_size 58 S.data.toList [] x hx
    rw [show S.data.toList.length = S.size from rfl] at h9
    simp at h9; omega
  rw [hl] at hall
  have oos : oo.size ≤ 100000 := hall oo.data.toList (by simp)
  have aas : aa.size ≤ 100000 := hall aa.data.toList (by simp)
  clear hall
  obtain ⟨CN, hCN⟩ : ∃ CN : ByteArray → Int, CN = fun x => countN x.data.toList 65535 := ⟨_, rfl⟩
  obtain ⟨CE, hCE⟩ : ∃ CE : ByteArray → Int, CE = fun x => countE x.data.toList 65535 := ⟨_, rfl⟩
  have HK : Hid (∀ (x : ByteArray) (w0 : World), x.size ≤ 100000 → Calls Tryd.prog 22 #[.string x, .int .i64 65535] w0 fun e w' => e = .returned (.tuple #[.int .i64 (CN x), .int .i64 (CE x)]) ∧ w0 = w') := Lib.hid (fun x w0 hx => by rw [hCN, hCE]; exact RCount_any x 65535 w0 (by unfold maxLen; omega) (by decide) (by decide))
  have n_oo : countN oo.data.toList 65535 = CN oo := by rw [hCN]
  have e_oo : countE oo.data.toList 65535 = CE oo := by rw [hCE]
  have n_aa : countN aa.data.toList 65535 = CN aa := by rw [hCN]
  have e_aa : countE aa.data.toList 65535 = CE aa := by rw [hCE]
  rw [e_oo] at hF
  rw [n_oo] at hZ
  rw [e_aa] at hE
  have HR := Lib.hid (fun w0 => RRight_any ByteArray.empty ⟨#[117, 100, 112]⟩ (countN oo.data.toList 65535) (countN aa.data.toList 65535) w0 (by decide))
  have e0 : rightB ⟨(ByteArray.empty : ByteArray).data.toList, countN oo.data.toList 65535, countN aa.data.toList 65535, (⟨#[117, 100, 112]⟩ : ByteArray).data.toList⟩ = false := hr
  rw [e0] at HR
  rw [n_aa, n_oo] at HR
  clear e0 hr
  clear hCN hCE n_oo e_oo n_aa e_aa
  have Z1 : (CN oo == 0) = false := beq_eq_false_iff_ne.2 hZ
  have HPB := Lib.hid (pb_new w ⟨#[]⟩ ⟨#[117, 100, 112]⟩ 0 0)
  clear hl
  go_enter Tryd.func8, Tryd.ntmps8
  go_upto_region 12 with (first
    | (go_at_call 21; refine (HC.out _).mono ?_; rintro e w3 ⟨v, rfl, hrd, hb, hfr⟩; obtain ⟨b, f, cap, rfl, q1, q2, q3, q4⟩ := rd_open (m := 1) hrd rfl; have q5 := hfr b rfl; have q6 := hb.size; have c0 := q4 0 (by simp); have c1 := q4 1 (by simp); simp only [List.getElem_cons_zero, List.getElem_cons_succ, ba_of, Nat.add_zero] at c0 c1; clear q4; have HP := Lib.hid (HPB.out.below hb); clear HPB hfr hrd; simp only [World.size_alloc] at q5; clear hb; obtain ⟨x0, x1, x2, x3⟩ := HP.out.2.2.cells; obtain ⟨z0, z1, z2, z3⟩ := HP.out.2.1.cells; obtain ⟨f0, f1, f2, f3⟩ := HP.out.2.2.frozen; obtain ⟨r0, r1, r2, r3⟩ := HP.out.2.1.frozen; have hsz := HP.out.size; unfold maxLen at q2)
    | (go_at_call 22; refine (HK.out _ _ (by assumption)).mono ?_; rintro e w4 ⟨rfl, rfl⟩))
  obtain ⟨W1, hW1⟩ : ∃ W, w3.setCell ⟨w.heap.size + 1, 2, none⟩ (.int .i64 (CN aa)) = W := ⟨_, rfl⟩
  rw [hW1]
  replace HP := Lib.hid (HP.out.inn (CN aa))
  rw [hW1] at HP
  replace c0 := (cell_othP (W := w3) (p := ⟨w.heap.size + 1, 2, none⟩) (q := ⟨b, f, none⟩) (by show b ≠ w.heap.size + 1; omega) (.int .i64 (CN aa))).trans c0
  rw [hW1] at c0
  replace c1 := (cell_othP (W := w3) (p := ⟨w.heap.size + 1, 2, none⟩) (q := ⟨b, f + 1, none⟩) (by show b ≠ w.heap.size + 1; omega) (.int .i64 (CN aa))).trans c1
  rw [hW1] at c1
  clear x0 x1 x2 x3 z0 z1 z2 z3 f0 f1 f2 f3 r0 r1 r2 r3 hsz
  clear hW1
  obtain ⟨x0, x1, x2, x3⟩ := HP.out.2.2.cells; obtain ⟨z0, z1, z2, z3⟩ := HP.out.2.1.cells; obtain ⟨f0, f1, f2, f3⟩ := HP.out.2.2.frozen; obtain ⟨r0, r1, r2, r3⟩ := HP.out.2.1.frozen; have hsz := HP.out.size
  go_upto_region 15 with (go_at_call 22; refine (HK.out _ _ (by assumption)).mono ?_; rintro e w4 ⟨rfl, rfl⟩)
  obtain ⟨W2, hW2⟩ : ∃ W, W1.setCell ⟨w.heap.size + 1, 1, none⟩ (.int .i64 (CN oo)) = W := ⟨_, rfl⟩
  rw [hW2]
  replace HP := Lib.hid (HP.out.out (CN oo))
  rw [hW2] at HP
  replace c0 := (cell_othP (W := W1) (p := ⟨w.heap.size + 1, 1, none⟩) (q := ⟨b, f, none⟩) (by show b ≠ w.heap.size + 1; omega) (.int .i64 (CN oo))).trans c0
  rw [hW2] at c0
  replace c1 := (cell_othP (W := W1) (p := ⟨w.heap.size + 1, 1, none⟩) (q := ⟨b, f + 1, none⟩) (by show b ≠ w.heap.size + 1; omega) (.int .i64 (CN oo))).trans c1
  rw [hW2] at c1
  clear x0 x1 x2 x3 z0 z1 z2 z3 f0 f1 f2 f3 r0 r1 r2 r3 hsz
  clear hW2
  obtain ⟨x0, x1, x2, x3⟩ := HP.out.2.2.cells; obtain ⟨z0, z1, z2, z3⟩ := HP.out.2.1.cells; obtain ⟨f0, f1, f2, f3⟩ := HP.out.2.2.frozen; obtain ⟨r0, r1, r2, r3⟩ := HP.out.2.1.frozen; have hsz := HP.out.size
  go_wp2_with (go_at_call 11; refine (HR.out _).mono ?_; rintro e w5 ⟨rfl, hb⟩; clear x0 x1 x2 x3 z0 z1 z2 z3 f0 f1 f2 f3 r0 r1 r2 r3 hsz; replace HP := Lib.hid (HP.out.below hb); clear hb; obtain ⟨x0, x1, x2, x3⟩ := HP.out.2.2.cells; obtain ⟨z0, z1, z2, z3⟩ := HP.out.2.1.cells; obtain ⟨f0, f1, f2, f3⟩ := HP.out.2.2.frozen; obtain ⟨r0, r1, r2, r3⟩ := HP.out.2.1.frozen; have hsz := HP.out.size)
  have HF := pb_end HP.out (.string ⟨#[]⟩) (.int .i64 0) (.int .i64 0) (.string ⟨#[]⟩)
  obtain ⟨y0, y1, y2, y3⟩ := HF.2.cells
  exact bodyPost_ret (v := .tuple #[.agg #[.string ⟨#[]⟩, .int .i64 0, .int .i64 0, .string ⟨#[]⟩], .int .i64 3]) (by simp [results, Tryd.results8, go_sem, y0, y1, y2, y3]) rfl ⟨rfl, HF.1⟩
set_option maxRecDepth 100000 in
set_option maxHeartbeats 8000000 in
theorem RPs_d_k2g (s S : ByteArray) (hs : s.size ≤ 100000) (hSs : S.size ≤ 100000) (m : Nat) (hm : s.size = m + 4) (hm0 : 0 < m) (hQ : s.extract m s.size = ⟨#[47, 117, 100, 112]⟩) (hP : s.extract (m + 1) s.size = ⟨#[117, 100, 112]⟩) (hS : s.extract 0 m = S) (oo aa : ByteArray) (hl : cutL 58 S.data.toList = [oo.data.toList, aa.data.toList]) (hF : countE oo.data.toList 65535 = 0) (hZ : ¬ countN oo.data.toList 65535 = 0) (hE : countE aa.data.toList 65535 = 0) (hr : rightB ⟨[], countN oo.data.toList 65535, countN aa.data.toList 65535, udpL⟩ = true) (w : World) :
    Calls Tryd.prog 8 #[.string s] w fun e w' => e = .returned (.tuple #[.agg #[.string ⟨#[]⟩, .int .i64 (countN oo.data.toList 65535), .int .i64 (countN aa.data.toList 65535), .string ⟨#[117, 100, 112]⟩], .int .i64 0]) ∧ Below w.heap.size w w' := by
  obtain ⟨n, hn⟩ : ∃ n, s.size = n := ⟨_, rfl⟩
  obtain ⟨m1, hm1⟩ : ∃ m1, m + 1 = m1 := ⟨_, rfl⟩
  rw [hn] at hQ hP hm
  rw [hm1] at hP
  have h4 : (4 : Int) < (n : Int) := by omega
  have h4n : 4 < n := by omega
  have kw4 : IntKind.i64.wrap ((n : Int) - 4) = (m : Int) := by rw [show (n : Int) - 4 = (m : Int) by omega]; exact IntWalk.i64_in _ (by omega)
  have kw3 : IntKind.i64.wrap ((n : Int) - 3) = (m1 : Int) := by rw [show (n : Int) - 3 = (m1 : Int) by omega]; exact IntWalk.i64_in _ (by omega)
  have hmn : (m : Int) ≤ (n : Int) := by omega
  have hmn2 : m ≤ n := by omega
  have hmn3 : (m1 : Int) ≤ (n : Int) := by omega
  have hmn4 : m1 ≤ n := by omega
  clear hm hm1 hm0
  have HC := Lib.hid (fun w0 => RCut16_any S 58 w0 hSs)
  rw [hl] at HC
  have hall : ∀ x ∈ cutL 58 S.data.toList, x.length ≤ 100000 := fun x hx => by
    have h9 := cutA_size 58 S.data.toList [] x hx
    rw [show S.data.toList.length = S.size from rfl] at h9
    simp at h9; omega
  rw [hl] at hall
  have oos : oo.size ≤ 100000 := hall oo.data.toList (by simp)
  have aas : aa.size ≤ 100000 := hall aa.data.toList (by simp)
  clear hall
  obtain ⟨CN, hCN⟩ : ∃ CN : ByteArray → Int, CN = fun x => countN x.data.toList 65535 := ⟨_, rfl⟩
  obtain ⟨CE, hCE⟩ : ∃ CE : ByteArray → Int, CE = fun x => countE x.data.toList 65535 := ⟨_, rfl⟩
  have HK : Hid (∀ (x : ByteArray) (w0 : World), x.size ≤ 100000 → Calls Tryd.prog 22 #[.string x, .int .i64 65535] w0 fun e w' => e = .returned (.tuple #[.int .i64 (CN x), .int .i64 (CE x)]) ∧ w0 = w') := Lib.hid (fun x w0 hx => by rw [hCN, hCE]; exact RCount_any x 65535 w0 (by unfold maxLen; omega) (by decide) (by decide))
  have n_oo : countN oo.data.toList 65535 = CN oo := by rw [hCN]
  have e_oo : countE oo.data.toList 65535 = CE oo := by rw [hCE]
  have n_aa : countN aa.data.toList 65535 = CN aa := by rw [hCN]
  have e_aa : countE aa.data.toList 65535 = CE aa := by rw [hCE]
  rw [e_oo] at hF
  rw [n_oo] at hZ
  rw [e_aa] at hE
  rw [n_aa, n_oo]
  have HR := Lib.hid (fun w0 => RRight_any ByteArray.empty ⟨#[117, 100, 112]⟩ (countN oo.data.toList 65535) (countN aa.data.toList 65535) w0 (by decide))
  have e0 : rightB ⟨(ByteArray.empty : ByteArray).data.toList, countN oo.data.toList 65535, countN aa.data.toList 65535, (⟨#[117, 100, 112]⟩ : ByteArray).data.toList⟩ = true := hr
  rw [e0] at HR
  rw [n_aa, n_oo] at HR
  clear e0 hr
  clear hCN hCE n_oo e_oo n_aa e_aa
  have Z1 : (CN oo == 0) = false := beq_eq_false_iff_ne.2 hZ
  have HPB := Lib.hid (pb_new w ⟨#[]⟩ ⟨#[117, 100, 112]⟩ 0 0)
  clear hl
  go_enter Tryd.func8, Tryd.ntmps8
  go_upto_region 12 with (first
    | (go_at_call 21; refine (HC.out _).mono ?_; rintro e w3 ⟨v, rfl, hrd, hb, hfr⟩; obtain ⟨b, f, cap, rfl, q1, q2, q3, q4⟩ := rd_open (m := 1) hrd rfl; have q5 := hfr b rfl; have q6 := hb.size; have c0 := q4 0 (by simp); have c1 := q4 1 (by simp); simp only [List.getElem_cons_zero, List.getElem_cons_succ, ba_of, Nat.add_zero] at c0 c1; clear q4; have HP := Lib.hid (HPB.out.below hb); clear HPB hfr hrd; simp only [World.size_alloc] at q5; clear hb; obtain ⟨x0, x1, x2, x3⟩ := HP.out.2.2.cells; obtain ⟨z0, z1, z2, z3⟩ := HP.out.2.1.cells; obtain ⟨f0, f1, f2, f3⟩ := HP.out.2.2.frozen; obtain ⟨r0, r1, r2, r3⟩ := HP.out.2.1.frozen; have hsz := HP.out.size; unfold maxLen at q2)
    | (go_at_call 22; refine (HK.out _ _ (by assumption)).mono ?_; rintro e w4 ⟨rfl, rfl⟩))
  obtain ⟨W1, hW1⟩ : ∃ W, w3.setCell ⟨w.heap.size + 1, 2, none⟩ (.int .i64 (CN aa)) = W := ⟨_, rfl⟩
  rw [hW1]
  replace HP := Lib.hid (HP.out.inn (CN aa))
  rw [hW1] at HP
  replace c0 := (cell_othP (W := w3) (p := ⟨w.heap.size + 1, 2, none⟩) (q := ⟨b, f, none⟩) (by show b ≠ w.heap.size + 1; omega) (.int .i64 (CN aa))).trans c0
  rw [hW1] at c0
  replace c1 := (cell_othP (W := w3) (p := ⟨w.heap.size + 1, 2, none⟩) (q := ⟨b, f + 1, none⟩) (by show b ≠ w.heap.size + 1; omega) (.int .i64 (CN aa))).trans c1
  rw [hW1] at c1
  clear x0 x1 x2 x3 z0 z1 z2 z3 f0 f1 f2 f3 r0 r1 r2 r3 hsz
  clear hW1
  obtain ⟨x0, x1, x2, x3⟩ := HP.out.2.2.cells; obtain ⟨z0, z1, z2, z3⟩ := HP.out.2.1.cells; obtain ⟨f0, f1, f2, f3⟩ := HP.out.2.2.frozen; obtain ⟨r0, r1, r2, r3⟩ := HP.out.2.1.frozen; have hsz := HP.out.size
  go_upto_region 15 with (go_at_call 22; refine (HK.out _ _ (by assumption)).mono ?_; rintro e w4 ⟨rfl, rfl⟩)
  obtain ⟨W2, hW2⟩ : ∃ W, W1.setCell ⟨w.heap.size + 1, 1, none⟩ (.int .i64 (CN oo)) = W := ⟨_, rfl⟩
  rw [hW2]
  replace HP := Lib.hid (HP.out.out (CN oo))
  rw [hW2] at HP
  replace c0 := (cell_othP (W := W1) (p := ⟨w.heap.size + 1, 1, none⟩) (q := ⟨b, f, none⟩) (by show b ≠ w.heap.size + 1; omega) (.int .i64 (CN oo))).trans c0
  rw [hW2] at c0
  replace c1 := (cell_othP (W := W1) (p := ⟨w.heap.size + 1, 1, none⟩) (q := ⟨b, f + 1, none⟩) (by show b ≠ w.heap.size + 1; omega) (.int .i64 (CN oo))).trans c1
  rw [hW2] at c1
  clear x0 x1 x2 x3 z0 z1 z2 z3 f0 f1 f2 f3 r0 r1 r2 r3 hsz
  clear hW2
  obtain ⟨x0, x1, x2, x3⟩ := HP.out.2.2.cells; obtain ⟨z0, z1, z2, z3⟩ := HP.out.2.1.cells; obtain ⟨f0, f1, f2, f3⟩ := HP.out.2.2.frozen; obtain ⟨r0, r1, r2, r3⟩ := HP.out.2.1.frozen; have hsz := HP.out.size
  go_wp2_with (go_at_call 11; refine (HR.out _).mono ?_; rintro e w5 ⟨rfl, hb⟩; clear x0 x1 x2 x3 z0 z1 z2 z3 f0 f1 f2 f3 r0 r1 r2 r3 hsz; replace HP := Lib.hid (HP.out.below hb); clear hb; obtain ⟨x0, x1, x2, x3⟩ := HP.out.2.2.cells; obtain ⟨z0, z1, z2, z3⟩ := HP.out.2.1.cells; obtain ⟨f0, f1, f2, f3⟩ := HP.out.2.2.frozen; obtain ⟨r0, r1, r2, r3⟩ := HP.out.2.1.frozen; have hsz := HP.out.size)
  have HF := pb_end HP.out (.string ⟨#[]⟩) (.int .i64 (CN oo)) (.int .i64 (CN aa)) (.string ⟨#[117, 100, 112]⟩)
  obtain ⟨y0, y1, y2, y3⟩ := HF.2.cells
  exact bodyPost_ret (v := .tuple #[.agg #[.string ⟨#[]⟩, .int .i64 (CN oo), .int .i64 (CN aa), .string ⟨#[117, 100, 112]⟩], .int .i64 0]) (by simp [results, Tryd.results8, go_sem, y0, y1, y2, y3]) rfl ⟨rfl, HF.1⟩
set_option maxRecDepth 100000 in
set_option maxHeartbeats 8000000 in
theorem RPs_d_k3zx (s S : ByteArray) (hs : s.size ≤ 100000) (hSs : S.size ≤ 100000) (m : Nat) (hm : s.size = m + 4) (hm0 : 0 < m) (hQ : s.extract m s.size = ⟨#[47, 117, 100, 112]⟩) (hP : s.extract (m + 1) s.size = ⟨#[117, 100, 112]⟩) (hS : s.extract 0 m = S) (oo aa : ByteArray) (hl : cutL 58 S.data.toList = [ByteArray.empty.data.toList, oo.data.toList, aa.data.toList]) (w : World) :
    Calls Tryd.prog 8 #[.string s] w fun e w' => e = .returned (.tuple #[.agg #[.string ⟨#[]⟩, .int .i64 0, .int .i64 0, .string ⟨#[]⟩], .int .i64 3]) ∧ Below w.heap.size w w' := by
  obtain ⟨n, hn⟩ : ∃ n, s.size = n := ⟨_, rfl⟩
  obtain ⟨m1, hm1⟩ : ∃ m1, m + 1 = m1 := ⟨_, rfl⟩
  rw [hn] at hQ hP hm
  rw [hm1] at hP
  have h4 : (4 : Int) < (n : Int) := by omega
  have h4n : 4 < n := by omega
  have kw4 : IntKind.i64.wrap ((n : Int) - 4) = (m : Int) := by rw [show (n : Int) - 4 = (m : Int) by omega]; exact IntWalk.i64_in _ (by omega)
  have kw3 : IntKind.i64.wrap ((n : Int) - 3) = (m1 : Int) := by rw [show (n : Int) - 3 = (m1 : Int) by omega]; exact IntWalk.i64_in _ (by omega)
  have hmn : (m : Int) ≤ (n : Int) := by omega
  have hmn2 : m ≤ n := by omega
  have hmn3 : (m1 : Int) ≤ (n : Int) := by omega
  have hmn4 : m1 ≤ n := by omega
  clear hm hm1 hm0
  have HC := Lib.hid (fun w0 => RCut16_any S 58 w0 hSs)
  rw [hl] at HC
  have hall : ∀ x ∈ cutL 58 S.data.toList, x.length ≤ 100000 := fun x hx => by
    have h9 := cutA_size 58 S.data.toList [] x hx
    rw [show S.data.toList.length = S.size from rfl] at h9
    simp at h9; omega
  rw [hl] at hall
  have oos : oo.size ≤ 100000 := hall oo.data.toList (by simp)
  have aas : aa.size ≤ 100000 := hall aa.data.toList (by simp)
  clear hall
  have HPB := Lib.hid (pb_new w ⟨#[]⟩ ⟨#[117, 100, 112]⟩ 0 0)
  clear hl
  go_enter Tryd.func8, Tryd.ntmps8
  go_wp2_with (go_at_call 21; refine (HC.out _).mono ?_; rintro e w3 ⟨v, rfl, hrd, hb, hfr⟩; obtain ⟨b, f, cap, rfl, q1, q2, q3, q4⟩ := rd_open (m := 2) hrd rfl; have q5 := hfr b rfl; have q6 := hb.size; have c0 := q4 0 (by simp); have c1 := q4 1 (by simp); have c2 := q4 2 (by simp); simp only [List.getElem_cons_zero, List.getElem_cons_succ, ba_of, Nat.add_zero] at c0 c1 c2; clear q4; have HP := Lib.hid (HPB.out.below hb); clear HPB hfr hrd; simp only [World.size_alloc] at q5; clear hb; obtain ⟨x0, x1, x2, x3⟩ := HP.out.2.2.cells; obtain ⟨z0, z1, z2, z3⟩ := HP.out.2.1.cells; obtain ⟨f0, f1, f2, f3⟩ := HP.out.2.2.frozen; obtain ⟨r0, r1, r2, r3⟩ := HP.out.2.1.frozen; have hsz := HP.out.size; unfold maxLen at q2)
  have HF := pb_end HP.out (.string ⟨#[]⟩) (.int .i64 0) (.int .i64 0) (.string ⟨#[]⟩)
  obtain ⟨y0, y1, y2, y3⟩ := HF.2.cells
  exact bodyPost_ret (v := .tuple #[.agg #[.string ⟨#[]⟩, .int .i64 0, .int .i64 0, .string ⟨#[]⟩], .int .i64 3]) (by simp [results, Tryd.results8, go_sem, y0, y1, y2, y3]) rfl ⟨rfl, HF.1⟩
set_option maxRecDepth 100000 in
set_option maxHeartbeats 8000000 in
theorem RPs_d_k3me (s S : ByteArray) (hs : s.size ≤ 100000) (hSs : S.size ≤ 100000) (m : Nat) (hm : s.size = m + 4) (hm0 : 0 < m) (hQ : s.extract m s.size = ⟨#[47, 117, 100, 112]⟩) (hP : s.extract (m + 1) s.size = ⟨#[117, 100, 112]⟩) (hS : s.extract 0 m = S) (hh aa : ByteArray) (hl : cutL 58 S.data.toList = [hh.data.toList, ByteArray.empty.data.toList, aa.data.toList]) (hh0 : 0 < hh.size) (hE : ¬ countE aa.data.toList 65535 = 0) (w : World) :
    Calls Tryd.prog 8 #[.string s] w fun e w' => e = .returned (.tuple #[.agg #[.string ⟨#[]⟩, .int .i64 0, .int .i64 0, .string ⟨#[]⟩], .int .i64 3]) ∧ Below w.heap.size w w' := by
  obtain ⟨n, hn⟩ : ∃ n, s.size = n := ⟨_, rfl⟩
  obtain ⟨m1, hm1⟩ : ∃ m1, m + 1 = m1 := ⟨_, rfl⟩
  rw [hn] at hQ hP hm
  rw [hm1] at hP
  have h4 : (4 : Int) < (n : Int) := by omega
  have h4n : 4 < n := by omega
  have kw4 : IntKind.i64.wrap ((n : Int) - 4) = (m : Int) := by rw [show (n : Int) - 4 = (m : Int) by omega]; exact IntWalk.i64_in _ (by omega)
  have kw3 : IntKind.i64.wrap ((n : Int) - 3) = (m1 : Int) := by rw [show (n : Int) - 3 = (m1 : Int) by omega]; exact IntWalk.i64_in _ (by omega)
  have hmn : (m : Int) ≤ (n : Int) := by omega
  have hmn2 : m ≤ n := by omega
  have hmn3 : (m1 : Int) ≤ (n : Int) := by omega
  have hmn4 : m1 ≤ n := by omega
  clear hm hm1 hm0
  have HC := Lib.hid (fun w0 => RCut16_any S 58 w0 hSs)
  rw [hl] at HC
  have hall : ∀ x ∈ cutL 58 S.data.toList, x.length ≤ 100000 := fun x hx => by
    have h9 := cutA_size 58 S.data.toList [] x hx
    rw [show S.data.toList.length = S.size from rfl] at h9
    simp at h9; omega
  rw [hl] at hall
  have hhs : hh.size ≤ 100000 := hall hh.data.toList (by simp)
  have aas : aa.size ≤ 100000 := hall aa.data.toList (by simp)
  clear hall
  obtain ⟨CN, hCN⟩ : ∃ CN : ByteArray → Int, CN = fun x => countN x.data.toList 65535 := ⟨_, rfl⟩
  obtain ⟨CE, hCE⟩ : ∃ CE : ByteArray → Int, CE = fun x => countE x.data.toList 65535 := ⟨_, rfl⟩
  have HK : Hid (∀ (x : ByteArray) (w0 : World), x.size ≤ 100000 → Calls Tryd.prog 22 #[.string x, .int .i64 65535] w0 fun e w' => e = .returned (.tuple #[.int .i64 (CN x), .int .i64 (CE x)]) ∧ w0 = w') := Lib.hid (fun x w0 hx => by rw [hCN, hCE]; exact RCount_any x 65535 w0 (by unfold maxLen; omega) (by decide) (by decide))
  have n_aa : countN aa.data.toList 65535 = CN aa := by rw [hCN]
  have e_aa : countE aa.data.toList 65535 = CE aa := by rw [hCE]
  rw [e_aa] at hE
  clear hCN hCE n_aa e_aa
  have E1 : (CE aa == 0) = false := beq_eq_false_iff_ne.2 hE
  have E2 : (CE aa != 0) = true := bne_iff_ne.2 hE
  have hh1 : ((hh.size : Int) == 0) = false := beq_eq_false_iff_ne.2 (by omega)
  have hh2 : ¬ hh.size = 0 := by omega
  have hh3 : ¬ hh = ByteArray.empty := fun e => hh2 (by rw [e]; rfl)
  have HPB := Lib.hid (pb_new w ⟨#[]⟩ ⟨#[117, 100, 112]⟩ 0 0)
  clear hl
  go_enter Tryd.func8, Tryd.ntmps8
  go_upto_region 12 with (first
    | (go_at_call 21; refine (HC.out _).mono ?_; rintro e w3 ⟨v, rfl, hrd, hb, hfr⟩; obtain ⟨b, f, cap, rfl, q1, q2, q3, q4⟩ := rd_open (m := 2) hrd rfl; have q5 := hfr b rfl; have q6 := hb.size; have c0 := q4 0 (by simp); have c1 := q4 1 (by simp); have c2 := q4 2 (by simp); simp only [List.getElem_cons_zero, List.getElem_cons_succ, ba_of, Nat.add_zero] at c0 c1 c2; clear q4; have HP := Lib.hid (HPB.out.below hb); clear HPB hfr hrd; simp only [World.size_alloc] at q5; clear hb; obtain ⟨x0, x1, x2, x3⟩ := HP.out.2.2.cells; obtain ⟨z0, z1, z2, z3⟩ := HP.out.2.1.cells; obtain ⟨f0, f1, f2, f3⟩ := HP.out.2.2.frozen; obtain ⟨r0, r1, r2, r3⟩ := HP.out.2.1.frozen; have hsz := HP.out.size; unfold maxLen at q2)
    | (go_at_call 22; refine (HK.out _ _ (by assumption)).mono ?_; rintro e w4 ⟨rfl, rfl⟩))
  obtain ⟨W1, hW1⟩ : ∃ W, w3.setCell ⟨w.heap.size + 1, 2, none⟩ (.int .i64 (CN aa)) = W := ⟨_, rfl⟩
  rw [hW1]
  replace HP := Lib.hid (HP.out.inn (CN aa))
  rw [hW1] at HP
  replace c0 := (cell_othP (W := w3) (p := ⟨w.heap.size + 1, 2, none⟩) (q := ⟨b, f, none⟩) (by show b ≠ w.heap.size + 1; omega) (.int .i64 (CN aa))).trans c0
  rw [hW1] at c0
  replace c1 := (cell_othP (W := w3) (p := ⟨w.heap.size + 1, 2, none⟩) (q := ⟨b, f + 1, none⟩) (by show b ≠ w.heap.size + 1; omega) (.int .i64 (CN aa))).trans c1
  rw [hW1] at c1
  replace c2 := (cell_othP (W := w3) (p := ⟨w.heap.size + 1, 2, none⟩) (q := ⟨b, f + 2, none⟩) (by show b ≠ w.heap.size + 1; omega) (.int .i64 (CN aa))).trans c2
  rw [hW1] at c2
  clear x0 x1 x2 x3 z0 z1 z2 z3 f0 f1 f2 f3 r0 r1 r2 r3 hsz
  clear hW1
  obtain ⟨x0, x1, x2, x3⟩ := HP.out.2.2.cells; obtain ⟨z0, z1, z2, z3⟩ := HP.out.2.1.cells; obtain ⟨f0, f1, f2, f3⟩ := HP.out.2.2.frozen; obtain ⟨r0, r1, r2, r3⟩ := HP.out.2.1.frozen; have hsz := HP.out.size
  go_upto_region 19 with fail
  obtain ⟨W2, hW2⟩ : ∃ W, W1.setCell ⟨w.heap.size + 1, 0, none⟩ (.string hh) = W := ⟨_, rfl⟩
  rw [hW2]
  replace HP := Lib.hid (HP.out.host hh)
  rw [hW2] at HP
  replace c0 := (cell_othP (W := W1) (p := ⟨w.heap.size + 1, 0, none⟩) (q := ⟨b, f, none⟩) (by show b ≠ w.heap.size + 1; omega) (.string hh)).trans c0
  rw [hW2] at c0
  replace c1 := (cell_othP (W := W1) (p := ⟨w.heap.size + 1, 0, none⟩) (q := ⟨b, f + 1, none⟩) (by show b ≠ w.heap.size + 1; omega) (.string hh)).trans c1
  rw [hW2] at c1
  replace c2 := (cell_othP (W := W1) (p := ⟨w.heap.size + 1, 0, none⟩) (q := ⟨b, f + 2, none⟩) (by show b ≠ w.heap.size + 1; omega) (.string hh)).trans c2
  rw [hW2] at c2
  clear x0 x1 x2 x3 z0 z1 z2 z3 f0 f1 f2 f3 r0 r1 r2 r3 hsz
  clear hW2
  obtain ⟨x0, x1, x2, x3⟩ := HP.out.2.2.cells; obtain ⟨z0, z1, z2, z3⟩ := HP.out.2.1.cells; obtain ⟨f0, f1, f2, f3⟩ := HP.out.2.2.frozen; obtain ⟨r0, r1, r2, r3⟩ := HP.out.2.1.frozen; have hsz := HP.out.size
  go_wp2
  have HF := pb_end HP.out (.string ⟨#[]⟩) (.int .i64 0) (.int .i64 0) (.string ⟨#[]⟩)
  obtain ⟨y0, y1, y2, y3⟩ := HF.2.cells
  exact bodyPost_ret (v := .tuple #[.agg #[.string ⟨#[]⟩, .int .i64 0, .int .i64 0, .string ⟨#[]⟩], .int .i64 3]) (by simp [results, Tryd.results8, go_sem, y0, y1, y2, y3]) rfl ⟨rfl, HF.1⟩
set_option maxRecDepth 100000 in
set_option maxHeartbeats 8000000 in
theorem RPs_d_k3mr (s S : ByteArray) (hs : s.size ≤ 100000) (hSs : S.size ≤ 100000) (m : Nat) (hm : s.size = m + 4) (hm0 : 0 < m) (hQ : s.extract m s.size = ⟨#[47, 117, 100, 112]⟩) (hP : s.extract (m + 1) s.size = ⟨#[117, 100, 112]⟩) (hS : s.extract 0 m = S) (hh aa : ByteArray) (hl : cutL 58 S.data.toList = [hh.data.toList, ByteArray.empty.data.toList, aa.data.toList]) (hh0 : 0 < hh.size) (hE : countE aa.data.toList 65535 = 0) (hr : rightB ⟨hh.data.toList, 0, countN aa.data.toList 65535, udpL⟩ = false) (w : World) :
    Calls Tryd.prog 8 #[.string s] w fun e w' => e = .returned (.tuple #[.agg #[.string ⟨#[]⟩, .int .i64 0, .int .i64 0, .string ⟨#[]⟩], .int .i64 3]) ∧ Below w.heap.size w w' := by
  obtain ⟨n, hn⟩ : ∃ n, s.size = n := ⟨_, rfl⟩
  obtain ⟨m1, hm1⟩ : ∃ m1, m + 1 = m1 := ⟨_, rfl⟩
  rw [hn] at hQ hP hm
  rw [hm1] at hP
  have h4 : (4 : Int) < (n : Int) := by omega
  have h4n : 4 < n := by omega
  have kw4 : IntKind.i64.wrap ((n : Int) - 4) = (m : Int) := by rw [show (n : Int) - 4 = (m : Int) by omega]; exact IntWalk.i64_in _ (by omega)
  have kw3 : IntKind.i64.wrap ((n : Int) - 3) = (m1 : Int) := by rw [show (n : Int) - 3 = (m1 : Int) by omega]; exact IntWalk.i64_in _ (by omega)
  have hmn : (m : Int) ≤ (n : Int) := by omega
  have hmn2 : m ≤ n := by omega
  have hmn3 : (m1 : Int) ≤ (n : Int) := by omega
  have hmn4 : m1 ≤ n := by omega
  clear hm hm1 hm0
  have HC := Lib.hid (fun w0 => RCut16_any S 58 w0 hSs)
  rw [hl] at HC
  have hall : ∀ x ∈ cutL 58 S.data.toList, x.length ≤ 100000 := fun x hx => by
    have h9 := cutA_size 58 S.data.toList [] x hx
    rw [show S.data.toList.length = S.size from rfl] at h9
    simp at h9; omega
  rw [hl] at hall
  have hhs : hh.size ≤ 100000 := hall hh.data.toList (by simp)
  have aas : aa.size ≤ 100000 := hall aa.data.toList (by simp)
  clear hall
  obtain ⟨CN, hCN⟩ : ∃ CN : ByteArray → Int, CN = fun x => countN x.data.toList 65535 := ⟨_, rfl⟩
  obtain ⟨CE, hCE⟩ : ∃ CE : ByteArray → Int, CE = fun x => countE x.data.toList 65535 := ⟨_, rfl⟩
  have HK : Hid (∀ (x : ByteArray) (w0 : World), x.size ≤ 100000 → Calls Tryd.prog 22 #[.string x, .int .i64 65535] w0 fun e w' => e = .returned (.tuple #[.int .i64 (CN x), .int .i64 (CE x)]) ∧ w0 = w') := Lib.hid (fun x w0 hx => by rw [hCN, hCE]; exact RCount_any x 65535 w0 (by unfold maxLen; omega) (by decide) (by decide))
  have n_aa : countN aa.data.toList 65535 = CN aa := by rw [hCN]
  have e_aa : countE aa.data.toList 65535 = CE aa := by rw [hCE]
  rw [e_aa] at hE
  have HR := Lib.hid (fun w0 => RRight_any hh ⟨#[117, 100, 112]⟩ (0) (countN aa.data.toList 65535) w0 hhs)
  have e0 : rightB ⟨(hh : ByteArray).data.toList, 0, countN aa.data.toList 65535, (⟨#[117, 100, 112]⟩ : ByteArray).data.toList⟩ = false := hr
  rw [e0] at HR
  rw [n_aa] at HR
  clear e0 hr
  clear hCN hCE n_aa e_aa
  have hh1 : ((hh.size : Int) == 0) = false := beq_eq_false_iff_ne.2 (by omega)
  have hh2 : ¬ hh.size = 0 := by omega
  have hh3 : ¬ hh = ByteArray.empty := fun e => hh2 (by rw [e]; rfl)
  have HPB := Lib.hid (pb_new w ⟨#[]⟩ ⟨#[117, 100, 112]⟩ 0 0)
  clear hl
  go_enter Tryd.func8, Tryd.ntmps8
  go_upto_region 12 with (first
    | (go_at_call 21; refine (HC.out _).mono ?_; rintro e w3 ⟨v, rfl, hrd, hb, hfr⟩; obtain ⟨b, f, cap, rfl, q1, q2, q3, q4⟩ := rd_open (m := 2) hrd rfl; have q5 := hfr b rfl; have q6 := hb.size; have c0 := q4 0 (by simp); have c1 := q4 1 (by simp); have c2 := q4 2 (by simp); simp only [List.getElem_cons_zero, List.getElem_cons_succ, ba_of, Nat.add_zero] at c0 c1 c2; clear q4; have HP := Lib.hid (HPB.out.below hb); clear HPB hfr hrd; simp only [World.size_alloc] at q5; clear hb; obtain ⟨x0, x1, x2, x3⟩ := HP.out.2.2.cells; obtain ⟨z0, z1, z2, z3⟩ := HP.out.2.1.cells; obtain ⟨f0, f1, f2, f3⟩ := HP.out.2.2.frozen; obtain ⟨r0, r1, r2, r3⟩ := HP.out.2.1.frozen; have hsz := HP.out.size; unfold maxLen at q2)
    | (go_at_call 22; refine (HK.out _ _ (by assumption)).mono ?_; rintro e w4 ⟨rfl, rfl⟩))
  obtain ⟨W1, hW1⟩ : ∃ W, w3.setCell ⟨w.heap.size + 1, 2, none⟩ (.int .i64 (CN aa)) = W := ⟨_, rfl⟩
  rw [hW1]
  replace HP := Lib.hid (HP.out.inn (CN aa))
  rw [hW1] at HP
  replace c0 := (cell_othP (W := w3) (p := ⟨w.heap.size + 1, 2, none⟩) (q := ⟨b, f, none⟩) (by show b ≠ w.heap.size + 1; omega) (.int .i64 (CN aa))).trans c0
  rw [hW1] at c0
  replace c1 := (cell_othP (W := w3) (p := ⟨w.heap.size + 1, 2, none⟩) (q := ⟨b, f + 1, none⟩) (by show b ≠ w.heap.size + 1; omega) (.int .i64 (CN aa))).trans c1
  rw [hW1] at c1
  replace c2 := (cell_othP (W := w3) (p := ⟨w.heap.size + 1, 2, none⟩) (q := ⟨b, f + 2, none⟩) (by show b ≠ w.heap.size + 1; omega) (.int .i64 (CN aa))).trans c2
  rw [hW1] at c2
  clear x0 x1 x2 x3 z0 z1 z2 z3 f0 f1 f2 f3 r0 r1 r2 r3 hsz
  clear hW1
  obtain ⟨x0, x1, x2, x3⟩ := HP.out.2.2.cells; obtain ⟨z0, z1, z2, z3⟩ := HP.out.2.1.cells; obtain ⟨f0, f1, f2, f3⟩ := HP.out.2.2.frozen; obtain ⟨r0, r1, r2, r3⟩ := HP.out.2.1.frozen; have hsz := HP.out.size
  go_upto_region 19 with fail
  obtain ⟨W2, hW2⟩ : ∃ W, W1.setCell ⟨w.heap.size + 1, 0, none⟩ (.string hh) = W := ⟨_, rfl⟩
  rw [hW2]
  replace HP := Lib.hid (HP.out.host hh)
  rw [hW2] at HP
  replace c0 := (cell_othP (W := W1) (p := ⟨w.heap.size + 1, 0, none⟩) (q := ⟨b, f, none⟩) (by show b ≠ w.heap.size + 1; omega) (.string hh)).trans c0
  rw [hW2] at c0
  replace c1 := (cell_othP (W := W1) (p := ⟨w.heap.size + 1, 0, none⟩) (q := ⟨b, f + 1, none⟩) (by show b ≠ w.heap.size + 1; omega) (.string hh)).trans c1
  rw [hW2] at c1
  replace c2 := (cell_othP (W := W1) (p := ⟨w.heap.size + 1, 0, none⟩) (q := ⟨b, f + 2, none⟩) (by show b ≠ w.heap.size + 1; omega) (.string hh)).trans c2
  rw [hW2] at c2
  clear x0 x1 x2 x3 z0 z1 z2 z3 f0 f1 f2 f3 r0 r1 r2 r3 hsz
  clear hW2
  obtain ⟨x0, x1, x2, x3⟩ := HP.out.2.2.cells; obtain ⟨z0, z1, z2, z3⟩ := HP.out.2.1.cells; obtain ⟨f0, f1, f2, f3⟩ := HP.out.2.2.frozen; obtain ⟨r0, r1, r2, r3⟩ := HP.out.2.1.frozen; have hsz := HP.out.size
  go_wp2_with (go_at_call 11; refine (HR.out _).mono ?_; rintro e w5 ⟨rfl, hb⟩; clear x0 x1 x2 x3 z0 z1 z2 z3 f0 f1 f2 f3 r0 r1 r2 r3 hsz; replace HP := Lib.hid (HP.out.below hb); clear hb; obtain ⟨x0, x1, x2, x3⟩ := HP.out.2.2.cells; obtain ⟨z0, z1, z2, z3⟩ := HP.out.2.1.cells; obtain ⟨f0, f1, f2, f3⟩ := HP.out.2.2.frozen; obtain ⟨r0, r1, r2, r3⟩ := HP.out.2.1.frozen; have hsz := HP.out.size)
  have HF := pb_end HP.out (.string ⟨#[]⟩) (.int .i64 0) (.int .i64 0) (.string ⟨#[]⟩)
  obtain ⟨y0, y1, y2, y3⟩ := HF.2.cells
  exact bodyPost_ret (v := .tuple #[.agg #[.string ⟨#[]⟩, .int .i64 0, .int .i64 0, .string ⟨#[]⟩], .int .i64 3]) (by simp [results, Tryd.results8, go_sem, y0, y1, y2, y3]) rfl ⟨rfl, HF.1⟩
set_option maxRecDepth 100000 in
set_option maxHeartbeats 8000000 in
theorem RPs_d_k3mg (s S : ByteArray) (hs : s.size ≤ 100000) (hSs : S.size ≤ 100000) (m : Nat) (hm : s.size = m + 4) (hm0 : 0 < m) (hQ : s.extract m s.size = ⟨#[47, 117, 100, 112]⟩) (hP : s.extract (m + 1) s.size = ⟨#[117, 100, 112]⟩) (hS : s.extract 0 m = S) (hh aa : ByteArray) (hl : cutL 58 S.data.toList = [hh.data.toList, ByteArray.empty.data.toList, aa.data.toList]) (hh0 : 0 < hh.size) (hE : countE aa.data.toList 65535 = 0) (hr : rightB ⟨hh.data.toList, 0, countN aa.data.toList 65535, udpL⟩ = true) (w : World) :
    Calls Tryd.prog 8 #[.string s] w fun e w' => e = .returned (.tuple #[.agg #[.string hh, .int .i64 (0), .int .i64 (countN aa.data.toList 65535), .string ⟨#[117, 100, 112]⟩], .int .i64 0]) ∧ Below w.heap.size w w' := by
  obtain ⟨n, hn⟩ : ∃ n, s.size = n := ⟨_, rfl⟩
  obtain ⟨m1, hm1⟩ : ∃ m1, m + 1 = m1 := ⟨_, rfl⟩
  rw [hn] at hQ hP hm
  rw [hm1] at hP
  have h4 : (4 : Int) < (n : Int) := by omega
  have h4n : 4 < n := by omega
  have kw4 : IntKind.i64.wrap ((n : Int) - 4) = (m : Int) := by rw [show (n : Int) - 4 = (m : Int) by omega]; exact IntWalk.i64_in _ (by omega)
  have kw3 : IntKind.i64.wrap ((n : Int) - 3) = (m1 : Int) := by rw [show (n : Int) - 3 = (m1 : Int) by omega]; exact IntWalk.i64_in _ (by omega)
  have hmn : (m : Int) ≤ (n : Int) := by omega
  have hmn2 : m ≤ n := by omega
  have hmn3 : (m1 : Int) ≤ (n : Int) := by omega
  have hmn4 : m1 ≤ n := by omega
  clear hm hm1 hm0
  have HC := Lib.hid (fun w0 => RCut16_any S 58 w0 hSs)
  rw [hl] at HC
  have hall : ∀ x ∈ cutL 58 S.data.toList, x.length ≤ 100000 := fun x hx => by
    have h9 := cutA_size 58 S.data.toList [] x hx
    rw [show S.data.toList.length = S.size from rfl] at h9
    simp at h9; omega
  rw [hl] at hall
  have hhs : hh.size ≤ 100000 := hall hh.data.toList (by simp)
  have aas : aa.size ≤ 100000 := hall aa.data.toList (by simp)
  clear hall
  obtain ⟨CN, hCN⟩ : ∃ CN : ByteArray → Int, CN = fun x => countN x.data.toList 65535 := ⟨_, rfl⟩
  obtain ⟨CE, hCE⟩ : ∃ CE : ByteArray → Int, CE = fun x => countE x.data.toList 65535 := ⟨_, rfl⟩
  have HK : Hid (∀ (x : ByteArray) (w0 : World), x.size ≤ 100000 → Calls Tryd.prog 22 #[.string x, .int .i64 65535] w0 fun e w' => e = .returned (.tuple #[.int .i64 (CN x), .int .i64 (CE x)]) ∧ w0 = w') := Lib.hid (fun x w0 hx => by rw [hCN, hCE]; exact RCount_any x 65535 w0 (by unfold maxLen; omega) (by decide) (by decide))
  have n_aa : countN aa.data.toList 65535 = CN aa := by rw [hCN]
  have e_aa : countE aa.data.toList 65535 = CE aa := by rw [hCE]
  rw [e_aa] at hE
  rw [n_aa]
  have HR := Lib.hid (fun w0 => RRight_any hh ⟨#[117, 100, 112]⟩ (0) (countN aa.data.toList 65535) w0 hhs)
  have e0 : rightB ⟨(hh : ByteArray).data.toList, 0, countN aa.data.toList 65535, (⟨#[117, 100, 112]⟩ : ByteArray).data.toList⟩ = true := hr
  rw [e0] at HR
  rw [n_aa] at HR
  clear e0 hr
  clear hCN hCE n_aa e_aa
  have hh1 : ((hh.size : Int) == 0) = false := beq_eq_false_iff_ne.2 (by omega)
  have hh2 : ¬ hh.size = 0 := by omega
  have hh3 : ¬ hh = ByteArray.empty := fun e => hh2 (by rw [e]; rfl)
  have HPB := Lib.hid (pb_new w ⟨#[]⟩ ⟨#[117, 100, 112]⟩ 0 0)
  clear hl
  go_enter Tryd.func8, Tryd.ntmps8
  go_upto_region 12 with (first
    | (go_at_call 21; refine (HC.out _).mono ?_; rintro e w3 ⟨v, rfl, hrd, hb, hfr⟩; obtain ⟨b, f, cap, rfl, q1, q2, q3, q4⟩ := rd_open (m := 2) hrd rfl; have q5 := hfr b rfl; have q6 := hb.size; have c0 := q4 0 (by simp); have c1 := q4 1 (by simp); have c2 := q4 2 (by simp); simp only [List.getElem_cons_zero, List.getElem_cons_succ, ba_of, Nat.add_zero] at c0 c1 c2; clear q4; have HP := Lib.hid (HPB.out.below hb); clear HPB hfr hrd; simp only [World.size_alloc] at q5; clear hb; obtain ⟨x0, x1, x2, x3⟩ := HP.out.2.2.cells; obtain ⟨z0, z1, z2, z3⟩ := HP.out.2.1.cells; obtain ⟨f0, f1, f2, f3⟩ := HP.out.2.2.frozen; obtain ⟨r0, r1, r2, r3⟩ := HP.out.2.1.frozen; have hsz := HP.out.size; unfold maxLen at q2)
    | (go_at_call 22; refine (HK.out _ _ (by assumption)).mono ?_; rintro e w4 ⟨rfl, rfl⟩))
  obtain ⟨W1, hW1⟩ : ∃ W, w3.setCell ⟨w.heap.size + 1, 2, none⟩ (.int .i64 (CN aa)) = W := ⟨_, rfl⟩
  rw [hW1]
  replace HP := Lib.hid (HP.out.inn (CN aa))
  rw [hW1] at HP
  replace c0 := (cell_othP (W := w3) (p := ⟨w.heap.size + 1, 2, none⟩) (q := ⟨b, f, none⟩) (by show b ≠ w.heap.size + 1; omega) (.int .i64 (CN aa))).trans c0
  rw [hW1] at c0
  replace c1 := (cell_othP (W := w3) (p := ⟨w.heap.size + 1, 2, none⟩) (q := ⟨b, f + 1, none⟩) (by show b ≠ w.heap.size + 1; omega) (.int .i64 (CN aa))).trans c1
  rw [hW1] at c1
  replace c2 := (cell_othP (W := w3) (p := ⟨w.heap.size + 1, 2, none⟩) (q := ⟨b, f + 2, none⟩) (by show b ≠ w.heap.size + 1; omega) (.int .i64 (CN aa))).trans c2
  rw [hW1] at c2
  clear x0 x1 x2 x3 z0 z1 z2 z3 f0 f1 f2 f3 r0 r1 r2 r3 hsz
  clear hW1
  obtain ⟨x0, x1, x2, x3⟩ := HP.out.2.2.cells; obtain ⟨z0, z1, z2, z3⟩ := HP.out.2.1.cells; obtain ⟨f0, f1, f2, f3⟩ := HP.out.2.2.frozen; obtain ⟨r0, r1, r2, r3⟩ := HP.out.2.1.frozen; have hsz := HP.out.size
  go_upto_region 19 with fail
  obtain ⟨W2, hW2⟩ : ∃ W, W1.setCell ⟨w.heap.size + 1, 0, none⟩ (.string hh) = W := ⟨_, rfl⟩
  rw [hW2]
  replace HP := Lib.hid (HP.out.host hh)
  rw [hW2] at HP
  replace c0 := (cell_othP (W := W1) (p := ⟨w.heap.size + 1, 0, none⟩) (q := ⟨b, f, none⟩) (by show b ≠ w.heap.size + 1; omega) (.string hh)).trans c0
  rw [hW2] at c0
  replace c1 := (cell_othP (W := W1) (p := ⟨w.heap.size + 1, 0, none⟩) (q := ⟨b, f + 1, none⟩) (by show b ≠ w.heap.size + 1; omega) (.string hh)).trans c1
  rw [hW2] at c1
  replace c2 := (cell_othP (W := W1) (p := ⟨w.heap.size + 1, 0, none⟩) (q := ⟨b, f + 2, none⟩) (by show b ≠ w.heap.size + 1; omega) (.string hh)).trans c2
  rw [hW2] at c2
  clear x0 x1 x2 x3 z0 z1 z2 z3 f0 f1 f2 f3 r0 r1 r2 r3 hsz
  clear hW2
  obtain ⟨x0, x1, x2, x3⟩ := HP.out.2.2.cells; obtain ⟨z0, z1, z2, z3⟩ := HP.out.2.1.cells; obtain ⟨f0, f1, f2, f3⟩ := HP.out.2.2.frozen; obtain ⟨r0, r1, r2, r3⟩ := HP.out.2.1.frozen; have hsz := HP.out.size
  go_wp2_with (go_at_call 11; refine (HR.out _).mono ?_; rintro e w5 ⟨rfl, hb⟩; clear x0 x1 x2 x3 z0 z1 z2 z3 f0 f1 f2 f3 r0 r1 r2 r3 hsz; replace HP := Lib.hid (HP.out.below hb); clear hb; obtain ⟨x0, x1, x2, x3⟩ := HP.out.2.2.cells; obtain ⟨z0, z1, z2, z3⟩ := HP.out.2.1.cells; obtain ⟨f0, f1, f2, f3⟩ := HP.out.2.2.frozen; obtain ⟨r0, r1, r2, r3⟩ := HP.out.2.1.frozen; have hsz := HP.out.size)
  have HF := pb_end HP.out (.string hh) (.int .i64 (0)) (.int .i64 (CN aa)) (.string ⟨#[117, 100, 112]⟩)
  obtain ⟨y0, y1, y2, y3⟩ := HF.2.cells
  exact bodyPost_ret (v := .tuple #[.agg #[.string hh, .int .i64 (0), .int .i64 (CN aa), .string ⟨#[117, 100, 112]⟩], .int .i64 0]) (by simp [results, Tryd.results8, go_sem, y0, y1, y2, y3]) rfl ⟨rfl, HF.1⟩
set_option maxRecDepth 100000 in
set_option maxHeartbeats 8000000 in
theorem RPs_d_k3f (s S : ByteArray) (hs : s.size ≤ 100000) (hSs : S.size ≤ 100000) (m : Nat) (hm : s.size = m + 4) (hm0 : 0 < m) (hQ : s.extract m s.size = ⟨#[47, 117, 100, 112]⟩) (hP : s.extract (m + 1) s.size = ⟨#[117, 100, 112]⟩) (hS : s.extract 0 m = S) (hh oo aa : ByteArray) (hl : cutL 58 S.data.toList = [hh.data.toList, oo.data.toList, aa.data.toList]) (hh0 : 0 < hh.size) (oo0 : 0 < oo.size) (hF : ¬ countE oo.data.toList 65535 = 0) (w : World) :
    Calls Tryd.prog 8 #[.string s] w fun e w' => e = .returned (.tuple #[.agg #[.string ⟨#[]⟩, .int .i64 0, .int .i64 0, .string ⟨#[]⟩], .int .i64 3]) ∧ Below w.heap.size w w' := by
  obtain ⟨n, hn⟩ : ∃ n, s.size = n := ⟨_, rfl⟩
  obtain ⟨m1, hm1⟩ : ∃ m1, m + 1 = m1 := ⟨_, rfl⟩
  rw [hn] at hQ hP hm
  rw [hm1] at hP
  have h4 : (4 : Int) < (n : Int) := by omega
  have h4n : 4 < n := by omega
  have kw4 : IntKind.i64.wrap ((n : Int) - 4) = (m : Int) := by rw [show (n : Int) - 4 = (m : Int) by omega]; exact IntWalk.i64_in _ (by omega)
  have kw3 : IntKind.i64.wrap ((n : Int) - 3) = (m1 : Int) := by rw [show (n : Int) - 3 = (m1 : Int) by omega]; exact IntWalk.i64_in _ (by omega)
  have hmn : (m : Int) ≤ (n : Int) := by omega
  have hmn2 : m ≤ n := by omega
  have hmn3 : (m1 : Int) ≤ (n : Int) := by omega
  have hmn4 : m1 ≤ n := by omega
  clear hm hm1 hm0
  have HC := Lib.hid (fun w0 => RCut16_any S 58 w0 hSs)
  rw [hl] at HC
  have hall : ∀ x ∈ cutL 58 S.data.toList, x.length ≤ 100000 := fun x hx => by
    have h9 := cutA_size 58 S.data.toList [] x hx
    rw [show S.data.toList.length = S.size from rfl] at h9
    simp at h9; omega
  rw [hl] at hall
  have hhs : hh.size ≤ 100000 := hall hh.data.toList (by simp)
  have oos : oo.size ≤ 100000 := hall oo.data.toList (by simp)
  have aas : aa.size ≤ 100000 := hall aa.data.toList (by simp)
  clear hall
  obtain ⟨CN, hCN⟩ : ∃ CN : ByteArray → Int, CN = fun x => countN x.data.toList 65535 := ⟨_, rfl⟩
  obtain ⟨CE, hCE⟩ : ∃ CE : ByteArray → Int, CE = fun x => countE x.data.toList 65535 := ⟨_, rfl⟩
  have HK : Hid (∀ (x : ByteArray) (w0 : World), x.size ≤ 100000 → Calls Tryd.prog 22 #[.string x, .int .i64 65535] w0 fun e w' => e = .returned (.tuple #[.int .i64 (CN x), .int .i64 (CE x)]) ∧ w0 = w') := Lib.hid (fun x w0 hx => by rw [hCN, hCE]; exact RCount_any x 65535 w0 (by unfold maxLen; omega) (by decide) (by decide))
  have n_oo : countN oo.data.toList 65535 = CN oo := by rw [hCN]
  have e_oo : countE oo.data.toList 65535 = CE oo := by rw [hCE]
  have n_aa : countN aa.data.toList 65535 = CN aa := by rw [hCN]
  have e_aa : countE aa.data.toList 65535 = CE aa := by rw [hCE]
  rw [e_oo] at hF
  clear hCN hCE n_oo e_oo n_aa e_aa
  have F1 : (CE oo == 0) = false := beq_eq_false_iff_ne.2 hF
  have F2 : (CE oo != 0) = true := bne_iff_ne.2 hF
  have hh1 : ((hh.size : Int) == 0) = false := beq_eq_false_iff_ne.2 (by omega)
  have hh2 : ¬ hh.size = 0 := by omega
  have hh3 : ¬ hh = ByteArray.empty := fun e => hh2 (by rw [e]; rfl)
  have oo1 : (0 : Int) < (oo.size : Int) := by omega
  have oo2 : ¬ oo.size = 0 := by omega
  have oo3 : ¬ oo = ByteArray.empty := fun e => oo2 (by rw [e]; rfl)
  have oo4 : decide ((0 : Int) < (oo.size : Int)) = true := decide_eq_true oo1
  have HPB := Lib.hid (pb_new w ⟨#[]⟩ ⟨#[117, 100, 112]⟩ 0 0)
  clear hl
  go_enter Tryd.func8, Tryd.ntmps8
  go_upto_region 12 with (first
    | (go_at_call 21; refine (HC.out _).mono ?_; rintro e w3 ⟨v, rfl, hrd, hb, hfr⟩; obtain ⟨b, f, cap, rfl, q1, q2, q3, q4⟩ := rd_open (m := 2) hrd rfl; have q5 := hfr b rfl; have q6 := hb.size; have c0 := q4 0 (by simp); have c1 := q4 1 (by simp); have c2 := q4 2 (by simp); simp only [List.getElem_cons_zero, List.getElem_cons_succ, ba_of, Nat.add_zero] at c0 c1 c2; clear q4; have HP := Lib.hid (HPB.out.below hb); clear HPB hfr hrd; simp only [World.size_alloc] at q5; clear hb; obtain ⟨x0, x1, x2, x3⟩ := HP.out.2.2.cells; obtain ⟨z0, z1, z2, z3⟩ := HP.out.2.1.cells; obtain ⟨f0, f1, f2, f3⟩ := HP.out.2.2.frozen; obtain ⟨r0, r1, r2, r3⟩ := HP.out.2.1.frozen; have hsz := HP.out.size; unfold maxLen at q2)
    | (go_at_call 22; refine (HK.out _ _ (by assumption)).mono ?_; rintro e w4 ⟨rfl, rfl⟩))
  obtain ⟨W1, hW1⟩ : ∃ W, w3.setCell ⟨w.heap.size + 1, 2, none⟩ (.int .i64 (CN aa)) = W := ⟨_, rfl⟩
  rw [hW1]
  replace HP := Lib.hid (HP.out.inn (CN aa))
  rw [hW1] at HP
  replace c0 := (cell_othP (W := w3) (p := ⟨w.heap.size + 1, 2, none⟩) (q := ⟨b, f, none⟩) (by show b ≠ w.heap.size + 1; omega) (.int .i64 (CN aa))).trans c0
  rw [hW1] at c0
  replace c1 := (cell_othP (W := w3) (p := ⟨w.heap.size + 1, 2, none⟩) (q := ⟨b, f + 1, none⟩) (by show b ≠ w.heap.size + 1; omega) (.int .i64 (CN aa))).trans c1
  rw [hW1] at c1
  replace c2 := (cell_othP (W := w3) (p := ⟨w.heap.size + 1, 2, none⟩) (q := ⟨b, f + 2, none⟩) (by show b ≠ w.heap.size + 1; omega) (.int .i64 (CN aa))).trans c2
  rw [hW1] at c2
  clear x0 x1 x2 x3 z0 z1 z2 z3 f0 f1 f2 f3 r0 r1 r2 r3 hsz
  clear hW1
  obtain ⟨x0, x1, x2, x3⟩ := HP.out.2.2.cells; obtain ⟨z0, z1, z2, z3⟩ := HP.out.2.1.cells; obtain ⟨f0, f1, f2, f3⟩ := HP.out.2.2.frozen; obtain ⟨r0, r1, r2, r3⟩ := HP.out.2.1.frozen; have hsz := HP.out.size
  go_upto_region 15 with (go_at_call 22; refine (HK.out _ _ (by assumption)).mono ?_; rintro e w4 ⟨rfl, rfl⟩)
  obtain ⟨W2, hW2⟩ : ∃ W, W1.setCell ⟨w.heap.size + 1, 1, none⟩ (.int .i64 (CN oo)) = W := ⟨_, rfl⟩
  rw [hW2]
  replace HP := Lib.hid (HP.out.out (CN oo))
  rw [hW2] at HP
  replace c0 := (cell_othP (W := W1) (p := ⟨w.heap.size + 1, 1, none⟩) (q := ⟨b, f, none⟩) (by show b ≠ w.heap.size + 1; omega) (.int .i64 (CN oo))).trans c0
  rw [hW2] at c0
  replace c1 := (cell_othP (W := W1) (p := ⟨w.heap.size + 1, 1, none⟩) (q := ⟨b, f + 1, none⟩) (by show b ≠ w.heap.size + 1; omega) (.int .i64 (CN oo))).trans c1
  rw [hW2] at c1
  replace c2 := (cell_othP (W := W1) (p := ⟨w.heap.size + 1, 1, none⟩) (q := ⟨b, f + 2, none⟩) (by show b ≠ w.heap.size + 1; omega) (.int .i64 (CN oo))).trans c2
  rw [hW2] at c2
  clear x0 x1 x2 x3 z0 z1 z2 z3 f0 f1 f2 f3 r0 r1 r2 r3 hsz
  clear hW2
  obtain ⟨x0, x1, x2, x3⟩ := HP.out.2.2.cells; obtain ⟨z0, z1, z2, z3⟩ := HP.out.2.1.cells; obtain ⟨f0, f1, f2, f3⟩ := HP.out.2.2.frozen; obtain ⟨r0, r1, r2, r3⟩ := HP.out.2.1.frozen; have hsz := HP.out.size
  go_wp2
  have HF := pb_end HP.out (.string ⟨#[]⟩) (.int .i64 0) (.int .i64 0) (.string ⟨#[]⟩)
  obtain ⟨y0, y1, y2, y3⟩ := HF.2.cells
  exact bodyPost_ret (v := .tuple #[.agg #[.string ⟨#[]⟩, .int .i64 0, .int .i64 0, .string ⟨#[]⟩], .int .i64 3]) (by simp [results, Tryd.results8, go_sem, y0, y1, y2, y3]) rfl ⟨rfl, HF.1⟩
set_option maxRecDepth 100000 in
set_option maxHeartbeats 8000000 in
theorem RPs_d_k3z (s S : ByteArray) (hs : s.size ≤ 100000) (hSs : S.size ≤ 100000) (m : Nat) (hm : s.size = m + 4) (hm0 : 0 < m) (hQ : s.extract m s.size = ⟨#[47, 117, 100, 112]⟩) (hP : s.extract (m + 1) s.size = ⟨#[117, 100, 112]⟩) (hS : s.extract 0 m = S) (hh oo aa : ByteArray) (hl : cutL 58 S.data.toList = [hh.data.toList, oo.data.toList, aa.data.toList]) (hh0 : 0 < hh.size) (oo0 : 0 < oo.size) (hF : countE oo.data.toList 65535 = 0) (hZ : countN oo.data.toList 65535 = 0) (w : World) :
    Calls Tryd.prog 8 #[.string s] w fun e w' => e = .returned (.tuple #[.agg #[.string ⟨#[]⟩, .int .i64 0, .int .i64 0, .string ⟨#[]⟩], .int .i64 3]) ∧ Below w.heap.size w w' := by
  obtain ⟨n, hn⟩ : ∃ n, s.size = n := ⟨_, rfl⟩
  obtain ⟨m1, hm1⟩ : ∃ m1, m + 1 = m1 := ⟨_, rfl⟩
  rw [hn] at hQ hP hm
  rw [hm1] at hP
  have h4 : (4 : Int) < (n : Int) := by omega
  have h4n : 4 < n := by omega
  have kw4 : IntKind.i64.wrap ((n : Int) - 4) = (m : Int) := by rw [show (n : Int) - 4 = (m : Int) by omega]; exact IntWalk.i64_in _ (by omega)
  have kw3 : IntKind.i64.wrap ((n : Int) - 3) = (m1 : Int) := by rw [show (n : Int) - 3 = (m1 : Int) by omega]; exact IntWalk.i64_in _ (by omega)
  have hmn : (m : Int) ≤ (n : Int) := by omega
  have hmn2 : m ≤ n := by omega
  have hmn3 : (m1 : Int) ≤ (n : Int) := by omega
  have hmn4 : m1 ≤ n := by omega
  clear hm hm1 hm0
  have HC := Lib.hid (fun w0 => RCut16_any S 58 w0 hSs)
  rw [hl] at HC
  have hall : ∀ x ∈ cutL 58 S.data.toList, x.length ≤ 100000 := fun x hx => by
    have h9 := cutA_size 58 S.data.toList [] x hx
    rw [show S.data.toList.length = S.size from rfl] at h9
    simp at h9; omega
  rw [hl] at hall
  have hhs : hh.size ≤ 100000 := hall hh.data.toList (by simp)
  have oos : oo.size ≤ 100000 := hall oo.data.toList (by simp)
  have aas : aa.size ≤ 100000 := hall aa.data.toList (by simp)
  clear hall
  obtain ⟨CN, hCN⟩ : ∃ CN : ByteArray → Int, CN = fun x => countN x.data.toList 65535 := ⟨_, rfl⟩
  obtain ⟨CE, hCE⟩ : ∃ CE : ByteArray → Int, CE = fun x => countE x.data.toList 65535 := ⟨_, rfl⟩
  have HK : Hid (∀ (x : ByteArray) (w0 : World), x.size ≤ 100000 → Calls Tryd.prog 22 #[.string x, .int .i64 65535] w0 fun e w' => e = .returned (.tuple #[.int .i64 (CN x), .int .i64 (CE x)]) ∧ w0 = w') := Lib.hid (fun x w0 hx => by rw [hCN, hCE]; exact RCount_any x 65535 w0 (by unfold maxLen; omega) (by decide) (by decide))
  have n_oo : countN oo.data.toList 65535 = CN oo := by rw [hCN]
  have e_oo : countE oo.data.toList 65535 = CE oo := by rw [hCE]
  have n_aa : countN aa.data.toList 65535 = CN aa := by rw [hCN]
  have e_aa : countE aa.data.toList 65535 = CE aa := by rw [hCE]
  rw [e_oo] at hF
  rw [n_oo] at hZ
  clear hCN hCE n_oo e_oo n_aa e_aa
  have hh1 : ((hh.size : Int) == 0) = false := beq_eq_false_iff_ne.2 (by omega)
  have hh2 : ¬ hh.size = 0 := by omega
  have hh3 : ¬ hh = ByteArray.empty := fun e => hh2 (by rw [e]; rfl)
  have oo1 : (0 : Int) < (oo.size : Int) := by omega
  have oo2 : ¬ oo.size = 0 := by omega
  have oo3 : ¬ oo = ByteArray.empty := fun e => oo2 (by rw [e]; rfl)
  have oo4 : decide ((0 : Int) < (oo.size : Int)) = true := decide_eq_true oo1
  have HPB := Lib.hid (pb_new w ⟨#[]⟩ ⟨#[117, 100, 112]⟩ 0 0)
  clear hl
  go_enter Tryd.func8, Tryd.ntmps8
  go_upto_region 12 with (first
    | (go_at_call 21; refine (HC.out _).mono ?_; rintro e w3 ⟨v, rfl, hrd, hb, hfr⟩; obtain ⟨b, f, cap, rfl, q1, q2, q3, q4⟩ := rd_open (m := 2) hrd rfl; have q5 := hfr b rfl; have q6 := hb.size; have c0 := q4 0 (by simp); have c1 := q4 1 (by simp); have c2 := q4 2 (by simp); simp only [List.getElem_cons_zero, List.getElem_cons_succ, ba_of, Nat.add_zero] at c0 c1 c2; clear q4; have HP := Lib.hid (HPB.out.below hb); clear HPB hfr hrd; simp only [World.size_alloc] at q5; clear hb; obtain ⟨x0, x1, x2, x3⟩ := HP.out.2.2.cells; obtain ⟨z0, z1, z2, z3⟩ := HP.out.2.1.cells; obtain ⟨f0, f1, f2, f3⟩ := HP.out.2.2.frozen; obtain ⟨r0, r1, r2, r3⟩ := HP.out.2.1.frozen; have hsz := HP.out.size; unfold maxLen at q2)
    | (go_at_call 22; refine (HK.out _ _ (by assumption)).mono ?_; rintro e w4 ⟨rfl, rfl⟩))
  obtain ⟨W1, hW1⟩ : ∃ W, w3.setCell ⟨w.heap.size + 1, 2, none⟩ (.int .i64 (CN aa)) = W := ⟨_, rfl⟩
  rw [hW1]
  replace HP := Lib.hid (HP.out.inn (CN aa))
  rw [hW1] at HP
  replace c0 := (cell_othP (W := w3) (p := ⟨w.heap.size + 1, 2, none⟩) (q := ⟨b, f, none⟩) (by show b ≠ w.heap.size + 1; omega) (.int .i64 (CN aa))).trans c0
  rw [hW1] at c0
  replace c1 := (cell_othP (W := w3) (p := ⟨w.heap.size + 1, 2, none⟩) (q := ⟨b, f + 1, none⟩) (by show b ≠ w.heap.size + 1; omega) (.int .i64 (CN aa))).trans c1
  rw [hW1] at c1
  replace c2 := (cell_othP (W := w3) (p := ⟨w.heap.size + 1, 2, none⟩) (q := ⟨b, f + 2, none⟩) (by show b ≠ w.heap.size + 1; omega) (.int .i64 (CN aa))).trans c2
  rw [hW1] at c2
  clear x0 x1 x2 x3 z0 z1 z2 z3 f0 f1 f2 f3 r0 r1 r2 r3 hsz
  clear hW1
  obtain ⟨x0, x1, x2, x3⟩ := HP.out.2.2.cells; obtain ⟨z0, z1, z2, z3⟩ := HP.out.2.1.cells; obtain ⟨f0, f1, f2, f3⟩ := HP.out.2.2.frozen; obtain ⟨r0, r1, r2, r3⟩ := HP.out.2.1.frozen; have hsz := HP.out.size
  go_upto_region 15 with (go_at_call 22; refine (HK.out _ _ (by assumption)).mono ?_; rintro e w4 ⟨rfl, rfl⟩)
  obtain ⟨W2, hW2⟩ : ∃ W, W1.setCell ⟨w.heap.size + 1, 1, none⟩ (.int .i64 0) = W := ⟨_, rfl⟩
  rw [hW2]
  replace HP := Lib.hid (HP.out.out 0)
  rw [hW2] at HP
  replace c0 := (cell_othP (W := W1) (p := ⟨w.heap.size + 1, 1, none⟩) (q := ⟨b, f, none⟩) (by show b ≠ w.heap.size + 1; omega) (.int .i64 0)).trans c0
  rw [hW2] at c0
  replace c1 := (cell_othP (W := W1) (p := ⟨w.heap.size + 1, 1, none⟩) (q := ⟨b, f + 1, none⟩) (by show b ≠ w.heap.size + 1; omega) (.int .i64 0)).trans c1
  rw [hW2] at c1
  replace c2 := (cell_othP (W := W1) (p := ⟨w.heap.size + 1, 1, none⟩) (q := ⟨b, f + 2, none⟩) (by show b ≠ w.heap.size + 1; omega) (.int .i64 0)).trans c2
  rw [hW2] at c2
  clear x0 x1 x2 x3 z0 z1 z2 z3 f0 f1 f2 f3 r0 r1 r2 r3 hsz
  clear hW2
  obtain ⟨x0, x1, x2, x3⟩ := HP.out.2.2.cells; obtain ⟨z0, z1, z2, z3⟩ := HP.out.2.1.cells; obtain ⟨f0, f1, f2, f3⟩ := HP.out.2.2.frozen; obtain ⟨r0, r1, r2, r3⟩ := HP.out.2.1.frozen; have hsz := HP.out.size
  go_wp2
  have HF := pb_end HP.out (.string ⟨#[]⟩) (.int .i64 0) (.int .i64 0) (.string ⟨#[]⟩)
  obtain ⟨y0, y1, y2, y3⟩ := HF.2.cells
  exact bodyPost_ret (v := .tuple #[.agg #[.string ⟨#[]⟩, .int .i64 0, .int .i64 0, .string ⟨#[]⟩], .int .i64 3]) (by simp [results, Tryd.results8, go_sem, y0, y1, y2, y3]) rfl ⟨rfl, HF.1⟩
set_option maxRecDepth 100000 in
set_option maxHeartbeats 8000000 in
theorem RPs_d_k3e (s S : ByteArray) (hs : s.size ≤ 100000) (hSs : S.size ≤ 100000) (m : Nat) (hm : s.size = m + 4) (hm0 : 0 < m) (hQ : s.extract m s.size = ⟨#[47, 117, 100, 112]⟩) (hP : s.extract (m + 1) s.size = ⟨#[117, 100, 112]⟩) (hS : s.extract 0 m = S) (hh oo aa : ByteArray) (hl : cutL 58 S.data.toList = [hh.data.toList, oo.data.toList, aa.data.toList]) (hh0 : 0 < hh.size) (oo0 : 0 < oo.size) (hF : countE oo.data.toList 65535 = 0) (hZ : ¬ countN oo.data.toList 65535 = 0) (hE : ¬ countE aa.data.toList 65535 = 0) (w : World) :
    Calls Tryd.prog 8 #[.string s] w fun e w' => e = .returned (.tuple #[.agg #[.string ⟨#[]⟩, .int .i64 0, .int .i64 0, .string ⟨#[]⟩], .int .i64 3]) ∧ Below w.heap.size w w' := by
  obtain ⟨n, hn⟩ : ∃ n, s.size = n := ⟨_, rfl⟩
  obtain ⟨m1, hm1⟩ : ∃ m1, m + 1 = m1 := ⟨_, rfl⟩
  rw [hn] at hQ hP hm
  rw [hm1] at hP
  have h4 : (4 : Int) < (n : Int) := by omega
  have h4n : 4 < n := by omega
  have kw4 : IntKind.i64.wrap ((n : Int) - 4) = (m : Int) := by rw [show (n : Int) - 4 = (m : Int) by omega]; exact IntWalk.i64_in _ (by omega)
  have kw3 : IntKind.i64.wrap ((n : Int) - 3) = (m1 : Int) := by rw [show (n : Int) - 3 = (m1 : Int) by omega]; exact IntWalk.i64_in _ (by omega)
  have hmn : (m : Int) ≤ (n : Int) := by omega
  have hmn2 : m ≤ n := by omega
  have hmn3 : (m1 : Int) ≤ (n : Int) := by omega
  have hmn4 : m1 ≤ n := by omega
  clear hm hm1 hm0
  have HC := Lib.hid (fun w0 => RCut16_any S 58 w0 hSs)
  rw [hl] at HC
  have hall : ∀ x ∈ cutL 58 S.data.toList, x.length ≤ 100000 := fun x hx => by
    have h9 := cutA_size 58 S.data.toList [] x hx
    rw [show S.data.toList.length = S.size from rfl] at h9
    simp at h9; omega
  rw [hl] at hall
  have hhs : hh.size ≤ 100000 := hall hh.data.toList (by simp)
  have oos : oo.size ≤ 100000 := hall oo.data.toList (by simp)
  have aas : aa.size ≤ 100000 := hall aa.data.toList (by simp)
  clear hall
  obtain ⟨CN, hCN⟩ : ∃ CN : ByteArray → Int, CN = fun x => countN x.data.toList 65535 := ⟨_, rfl⟩
  obtain ⟨CE, hCE⟩ : ∃ CE : ByteArray → Int, CE = fun x => countE x.data.toList 65535 := ⟨_, rfl⟩
  have HK : Hid (∀ (x : ByteArray) (w0 : World), x.size ≤ 100000 → Calls Tryd.prog 22 #[.string x, .int .i64 65535] w0 fun e w' => e = .returned (.tuple #[.int .i64 (CN x), .int .i64 (CE x)]) ∧ w0 = w') := Lib.hid (fun x w0 hx => by rw [hCN, hCE]; exact RCount_any x 65535 w0 (by unfold maxLen; omega) (by decide) (by decide))
  have n_oo : countN oo.data.toList 65535 = CN oo := by rw [hCN]
  have e_oo : countE oo.data.toList 65535 = CE oo := by rw [hCE]
  have n_aa : countN aa.data.toList 65535 = CN aa := by rw [hCN]
  have e_aa : countE aa.data.toList 65535 = CE aa := by rw [hCE]
  rw [e_oo] at hF
  rw [n_oo] at hZ
  rw [e_aa] at hE
  clear hCN hCE n_oo e_oo n_aa e_aa
  have Z1 : (CN oo == 0) = false := beq_eq_false_iff_ne.2 hZ
  have E1 : (CE aa == 0) = false := beq_eq_false_iff_ne.2 hE
  have E2 : (CE aa != 0) = true := bne_iff_ne.2 hE
  have hh1 : ((hh.size : Int) == 0) = false := beq_eq_false_iff_ne.2 (by omega)
  have hh2 : ¬ hh.size = 0 := by omega
  have hh3 : ¬ hh = ByteArray.empty := fun e => hh2 (by rw [e]; rfl)
  have oo1 : (0 : Int) < (oo.size : Int) := by omega
  have oo2 : ¬ oo.size = 0 := by omega
  have oo3 : ¬ oo = ByteArray.empty := fun e => oo2 (by rw [e]; rfl)
  have oo4 : decide ((0 : Int) < (oo.size : Int)) = true := decide_eq_true oo1
  have HPB := Lib.hid (pb_new w ⟨#[]⟩ ⟨#[117, 100, 112]⟩ 0 0)
  clear hl
  go_enter Tryd.func8, Tryd.ntmps8
  go_upto_region 12 with (first
    | (go_at_call 21; refine (HC.out _).mono ?_; rintro e w3 ⟨v, rfl, hrd, hb, hfr⟩; obtain ⟨b, f, cap, rfl, q1, q2, q3, q4⟩ := rd_open (m := 2) hrd rfl; have q5 := hfr b rfl; have q6 := hb.size; have c0 := q4 0 (by simp); have c1 := q4 1 (by simp); have c2 := q4 2 (by simp); simp only [List.getElem_cons_zero, List.getElem_cons_succ, ba_of, Nat.add_zero] at c0 c1 c2; clear q4; have HP := Lib.hid (HPB.out.below hb); clear HPB hfr hrd; simp only [World.size_alloc] at q5; clear hb; obtain ⟨x0, x1, x2, x3⟩ := HP.out.2.2.cells; obtain ⟨z0, z1, z2, z3⟩ := HP.out.2.1.cells; obtain ⟨f0, f1, f2, f3⟩ := HP.out.2.2.frozen; obtain ⟨r0, r1, r2, r3⟩ := HP.out.2.1.frozen; have hsz := HP.out.size; unfold maxLen at q2)
    | (go_at_call 22; refine (HK.out _ _ (by assumption)).mono ?_; rintro e w4 ⟨rfl, rfl⟩))
  obtain ⟨W1, hW1⟩ : ∃ W, w3.setCell ⟨w.heap.size + 1, 2, none⟩ (.int .i64 (CN aa)) = W := ⟨_, rfl⟩
  rw [hW1]
  replace HP := Lib.hid (HP.out.inn (CN aa))
  rw [hW1] at HP
  replace c0 := (cell_othP (W := w3) (p := ⟨w.heap.size + 1, 2, none⟩) (q := ⟨b, f, none⟩) (by show b ≠ w.heap.size + 1; omega) (.int .i64 (CN aa))).trans c0
  rw [hW1] at c0
  replace c1 := (cell_othP (W := w3) (p := ⟨w.heap.size + 1, 2, none⟩) (q := ⟨b, f + 1, none⟩) (by show b ≠ w.heap.size + 1; omega) (.int .i64 (CN aa))).trans c1
  rw [hW1] at c1
  replace c2 := (cell_othP (W := w3) (p := ⟨w.heap.size + 1, 2, none⟩) (q := ⟨b, f + 2, none⟩) (by show b ≠ w.heap.size + 1; omega) (.int .i64 (CN aa))).trans c2
  rw [hW1] at c2
  clear x0 x1 x2 x3 z0 z1 z2 z3 f0 f1 f2 f3 r0 r1 r2 r3 hsz
  clear hW1
  obtain ⟨x0, x1, x2, x3⟩ := HP.out.2.2.cells; obtain ⟨z0, z1, z2, z3⟩ := HP.out.2.1.cells; obtain ⟨f0, f1, f2, f3⟩ := HP.out.2.2.frozen; obtain ⟨r0, r1, r2, r3⟩ := HP.out.2.1.frozen; have hsz := HP.out.size
  go_upto_region 15 with (go_at_call 22; refine (HK.out _ _ (by assumption)).mono ?_; rintro e w4 ⟨rfl, rfl⟩)
  obtain ⟨W2, hW2⟩ : ∃ W, W1.setCell ⟨w.heap.size + 1, 1, none⟩ (.int .i64 (CN oo)) = W := ⟨_, rfl⟩
  rw [hW2]
  replace HP := Lib.hid (HP.out.out (CN oo))
  rw [hW2] at HP
  replace c0 := (cell_othP (W := W1) (p := ⟨w.heap.size + 1, 1, none⟩) (q := ⟨b, f, none⟩) (by show b ≠ w.heap.size + 1; omega) (.int .i64 (CN oo))).trans c0
  rw [hW2] at c0
  replace c1 := (cell_othP (W := W1) (p := ⟨w.heap.size + 1, 1, none⟩) (q := ⟨b, f + 1, none⟩) (by show b ≠ w.heap.size + 1; omega) (.int .i64 (CN oo))).trans c1
  rw [hW2] at c1
  replace c2 := (cell_othP (W := W1) (p := ⟨w.heap.size + 1, 1, none⟩) (q := ⟨b, f + 2, none⟩) (by show b ≠ w.heap.size + 1; omega) (.int .i64 (CN oo))).trans c2
  rw [hW2] at c2
  clear x0 x1 x2 x3 z0 z1 z2 z3 f0 f1 f2 f3 r0 r1 r2 r3 hsz
  clear hW2
  obtain ⟨x0, x1, x2, x3⟩ := HP.out.2.2.cells; obtain ⟨z0, z1, z2, z3⟩ := HP.out.2.1.cells; obtain ⟨f0, f1, f2, f3⟩ := HP.out.2.2.frozen; obtain ⟨r0, r1, r2, r3⟩ := HP.out.2.1.frozen; have hsz := HP.out.size
  go_upto_region 19 with fail
  obtain ⟨W3, hW3⟩ : ∃ W, W2.setCell ⟨w.heap.size + 1, 0, none⟩ (.string hh) = W := ⟨_, rfl⟩
  rw [hW3]
  replace HP := Lib.hid (HP.out.host hh)
  rw [hW3] at HP
  replace c0 := (cell_othP (W := W2) (p := ⟨w.heap.size + 1, 0, none⟩) (q := ⟨b, f, none⟩) (by show b ≠ w.heap.size + 1; omega) (.string hh)).trans c0
  rw [hW3] at c0
  replace c1 := (cell_othP (W := W2) (p := ⟨w.heap.size + 1, 0, none⟩) (q := ⟨b, f + 1, none⟩) (by show b ≠ w.heap.size + 1; omega) (.string hh)).trans c1
  rw [hW3] at c1
  replace c2 := (cell_othP (W := W2) (p := ⟨w.heap.size + 1, 0, none⟩) (q := ⟨b, f + 2, none⟩) (by show b ≠ w.heap.size + 1; omega) (.string hh)).trans c2
  rw [hW3] at c2
  clear x0 x1 x2 x3 z0 z1 z2 z3 f0 f1 f2 f3 r0 r1 r2 r3 hsz
  clear hW3
  obtain ⟨x0, x1, x2, x3⟩ := HP.out.2.2.cells; obtain ⟨z0, z1, z2, z3⟩ := HP.out.2.1.cells; obtain ⟨f0, f1, f2, f3⟩ := HP.out.2.2.frozen; obtain ⟨r0, r1, r2, r3⟩ := HP.out.2.1.frozen; have hsz := HP.out.size
  go_wp2
  have HF := pb_end HP.out (.string ⟨#[]⟩) (.int .i64 0) (.int .i64 0) (.string ⟨#[]⟩)
  obtain ⟨y0, y1, y2, y3⟩ := HF.2.cells
  exact bodyPost_ret (v := .tuple #[.agg #[.string ⟨#[]⟩, .int .i64 0, .int .i64 0, .string ⟨#[]⟩], .int .i64 3]) (by simp [results, Tryd.results8, go_sem, y0, y1, y2, y3]) rfl ⟨rfl, HF.1⟩
set_option maxRecDepth 100000 in
set_option maxHeartbeats 8000000 in
theorem RPs_d_k3r (s S : ByteArray) (hs : s.size ≤ 100000) (hSs : S.size ≤ 100000) (m : Nat) (hm : s.size = m + 4) (hm0 : 0 < m) (hQ : s.extract m s.size = ⟨#[47, 117, 100, 112]⟩) (hP : s.extract (m + 1) s.size = ⟨#[117, 100, 112]⟩) (hS : s.extract 0 m = S) (hh oo aa : ByteArray) (hl : cutL 58 S.data.toList = [hh.data.toList, oo.data.toList, aa.data.toList]) (hh0 : 0 < hh.size) (oo0 : 0 < oo.size) (hF : countE oo.data.toList 65535 = 0) (hZ : ¬ countN oo.data.toList 65535 = 0) (hE : countE aa.data.toList 65535 = 0) (hr : rightB ⟨hh.data.toList, countN oo.data.toList 65535, countN aa.data.toList 65535, udpL⟩ = false) (w : World) :
    Calls Tryd.prog 8 #[.string s] w fun e w' => e = .returned (.tuple #[.agg #[.string ⟨#[]⟩, .int .i64 0, .int .i64 0, .string ⟨#[]⟩], .int .i64 3]) ∧ Below w.heap.size w w' := by
  obtain ⟨n, hn⟩ : ∃ n, s.size = n := ⟨_, rfl⟩
  obtain ⟨m1, hm1⟩ : ∃ m1, m + 1 = m1 := ⟨_, rfl⟩
  rw [hn] at hQ hP hm
  rw [hm1] at hP
  have h4 : (4 : Int) < (n : Int) := by omega
  have h4n : 4 < n := by omega
  have kw4 : IntKind.i64.wrap ((n : Int) - 4) = (m : Int) := by rw [show (n : Int) - 4 = (m : Int) by omega]; exact IntWalk.i64_in _ (by omega)
  have kw3 : IntKind.i64.wrap ((n : Int) - 3) = (m1 : Int) := by rw [show (n : Int) - 3 = (m1 : Int) by omega]; exact IntWalk.i64_in _ (by omega)
  have hmn : (m : Int) ≤ (n : Int) := by omega
  have hmn2 : m ≤ n := by omega
  have hmn3 : (m1 : Int) ≤ (n : Int) := by omega
  have hmn4 : m1 ≤ n := by omega
  clear hm hm1 hm0
  have HC := Lib.hid (fun w0 => RCut16_any S 58 w0 hSs)
  rw [hl] at HC
  have hall : ∀ x ∈ cutL 58 S.data.toList, x.length ≤ 100000 := fun x hx => by
    have h9 := cutA_size 58 S.data.toList [] x hx
    rw [show S.data.toList.length = S.size from rfl] at h9
    simp at h9; omega
  rw [hl] at hall
  have hhs : hh.size ≤ 100000 := hall hh.data.toList (by simp)
  have oos : oo.size ≤ 100000 := hall oo.data.toList (by simp)
  have aas : aa.size ≤ 100000 := hall aa.data.toList (by simp)
  clear hall
  obtain ⟨CN, hCN⟩ : ∃ CN : ByteArray → Int, CN = fun x => countN x.data.toList 65535 := ⟨_, rfl⟩
  obtain ⟨CE, hCE⟩ : ∃ CE : ByteArray → Int, CE = fun x => countE x.data.toList 65535 := ⟨_, rfl⟩
  have HK : Hid (∀ (x : ByteArray) (w0 : World), x.size ≤ 100000 → Calls Tryd.prog 22 #[.string x, .int .i64 65535] w0 fun e w' => e = .returned (.tuple #[.int .i64 (CN x), .int .i64 (CE x)]) ∧ w0 = w') := Lib.hid (fun x w0 hx => by rw [hCN, hCE]; exact RCount_any x 65535 w0 (by unfold maxLen; omega) (by decide) (by decide))
  have n_oo : countN oo.data.toList 65535 = CN oo := by rw [hCN]
  have e_oo : countE oo.data.toList 65535 = CE oo := by rw [hCE]
  have n_aa : countN aa.data.toList 65535 = CN aa := by rw [hCN]
  have e_aa : countE aa.data.toList 65535 = CE aa := by rw [hCE]
  rw [e_oo] at hF
  rw [n_oo] at hZ
  rw [e_aa] at hE
  have HR := Lib.hid (fun w0 => RRight_any hh ⟨#[117, 100, 112]⟩ (countN oo.data.toList 65535) (countN aa.data.toList 65535) w0 hhs)
  have e0 : rightB ⟨(hh : ByteArray).data.toList, countN oo.data.toList 65535, countN aa.data.toList 65535, (⟨#[117, 100, 112]⟩ : ByteArray).data.toList⟩ = false := hr
  rw [e0] at HR
  rw [n_aa, n_oo] at HR
  clear e0 hr
  clear hCN hCE n_oo e_oo n_aa e_aa
  have Z1 : (CN oo == 0) = false := beq_eq_false_iff_ne.2 hZ
  have hh1 : ((hh.size : Int) == 0) = false := beq_eq_false_iff_ne.2 (by omega)
  have hh2 : ¬ hh.size = 0 := by omega
  have hh3 : ¬ hh = ByteArray.empty := fun e => hh2 (by rw [e]; rfl)
  have oo1 : (0 : Int) < (oo.size : Int) := by omega
  have oo2 : ¬ oo.size = 0 := by omega
  have oo3 : ¬ oo = ByteArray.empty := fun e => oo2 (by rw [e]; rfl)
  have oo4 : decide ((0 : Int) < (oo.size : Int)) = true := decide_eq_true oo1
  have HPB := Lib.hid (pb_new w ⟨#[]⟩ ⟨#[117, 100, 112]⟩ 0 0)
  clear hl
  go_enter Tryd.func8, Tryd.ntmps8
  go_upto_region 12 with (first
    | (go_at_call 21; refine (HC.out _).mono ?_; rintro e w3 ⟨v, rfl, hrd, hb, hfr⟩; obtain ⟨b, f, cap, rfl, q1, q2, q3, q4⟩ := rd_open (m := 2) hrd rfl; have q5 := hfr b rfl; have q6 := hb.size; have c0 := q4 0 (by simp); have c1 := q4 1 (by simp); have c2 := q4 2 (by simp); simp only [List.getElem_cons_zero, List.getElem_cons_succ, ba_of, Nat.add_zero] at c0 c1 c2; clear q4; have HP := Lib.hid (HPB.out.below hb); clear HPB hfr hrd; simp only [World.size_alloc] at q5; clear hb; obtain ⟨x0, x1, x2, x3⟩ := HP.out.2.2.cells; obtain ⟨z0, z1, z2, z3⟩ := HP.out.2.1.cells; obtain ⟨f0, f1, f2, f3⟩ := HP.out.2.2.frozen; obtain ⟨r0, r1, r2, r3⟩ := HP.out.2.1.frozen; have hsz := HP.out.size; unfold maxLen at q2)
    | (go_at_call 22; refine (HK.out _ _ (by assumption)).mono ?_; rintro e w4 ⟨rfl, rfl⟩))
  obtain ⟨W1, hW1⟩ : ∃ W, w3.setCell ⟨w.heap.size + 1, 2, none⟩ (.int .i64 (CN aa)) = W := ⟨_, rfl⟩
  rw [hW1]
  replace HP := Lib.hid (HP.out.inn (CN aa))
  rw [hW1] at HP
  replace c0 := (cell_othP (W := w3) (p := ⟨w.heap.size + 1, 2, none⟩) (q := ⟨b, f, none⟩) (by show b ≠ w.heap.size + 1; omega) (.int .i64 (CN aa))).trans c0
  rw [hW1] at c0
  replace c1 := (cell_othP (W := w3) (p := ⟨w.heap.size + 1, 2, none⟩) (q := ⟨b, f + 1, none⟩) (by show b ≠ w.heap.size + 1; omega) (.int .i64 (CN aa))).trans c1
  rw [hW1] at c1
  replace c2 := (cell_othP (W := w3) (p := ⟨w.heap.size + 1, 2, none⟩) (q := ⟨b, f + 2, none⟩) (by show b ≠ w.heap.size + 1; omega) (.int .i64 (CN aa))).trans c2
  rw [hW1] at c2
  clear x0 x1 x2 x3 z0 z1 z2 z3 f0 f1 f2 f3 r0 r1 r2 r3 hsz
  clear hW1
  obtain ⟨x0, x1, x2, x3⟩ := HP.out.2.2.cells; obtain ⟨z0, z1, z2, z3⟩ := HP.out.2.1.cells; obtain ⟨f0, f1, f2, f3⟩ := HP.out.2.2.frozen; obtain ⟨r0, r1, r2, r3⟩ := HP.out.2.1.frozen; have hsz := HP.out.size
  go_upto_region 15 with (go_at_call 22; refine (HK.out _ _ (by assumption)).mono ?_; rintro e w4 ⟨rfl, rfl⟩)
  obtain ⟨W2, hW2⟩ : ∃ W, W1.setCell ⟨w.heap.size + 1, 1, none⟩ (.int .i64 (CN oo)) = W := ⟨_, rfl⟩
  rw [hW2]
  replace HP := Lib.hid (HP.out.out (CN oo))
  rw [hW2] at HP
  replace c0 := (cell_othP (W := W1) (p := ⟨w.heap.size + 1, 1, none⟩) (q := ⟨b, f, none⟩) (by show b ≠ w.heap.size + 1; omega) (.int .i64 (CN oo))).trans c0
  rw [hW2] at c0
  replace c1 := (cell_othP (W := W1) (p := ⟨w.heap.size + 1, 1, none⟩) (q := ⟨b, f + 1, none⟩) (by show b ≠ w.heap.size + 1; omega) (.int .i64 (CN oo))).trans c1
  rw [hW2] at c1
  replace c2 := (cell_othP (W := W1) (p := ⟨w.heap.size + 1, 1, none⟩) (q := ⟨b, f + 2, none⟩) (by show b ≠ w.heap.size + 1; omega) (.int .i64 (CN oo))).trans c2
  rw [hW2] at c2
  clear x0 x1 x2 x3 z0 z1 z2 z3 f0 f1 f2 f3 r0 r1 r2 r3 hsz
  clear hW2
  obtain ⟨x0, x1, x2, x3⟩ := HP.out.2.2.cells; obtain ⟨z0, z1, z2, z3⟩ := HP.out.2.1.cells; obtain ⟨f0, f1, f2, f3⟩ := HP.out.2.2.frozen; obtain ⟨r0, r1, r2, r3⟩ := HP.out.2.1.frozen; have hsz := HP.out.size
  go_upto_region 19 with fail
  obtain ⟨W3, hW3⟩ : ∃ W, W2.setCell ⟨w.heap.size + 1, 0, none⟩ (.string hh) = W := ⟨_, rfl⟩
  rw [hW3]
  replace HP := Lib.hid (HP.out.host hh)
  rw [hW3] at HP
  replace c0 := (cell_othP (W := W2) (p := ⟨w.heap.size + 1, 0, none⟩) (q := ⟨b, f, none⟩) (by show b ≠ w.heap.size + 1; omega) (.string hh)).trans c0
  rw [hW3] at c0
  replace c1 := (cell_othP (W := W2) (p := ⟨w.heap.size + 1, 0, none⟩) (q := ⟨b, f + 1, none⟩) (by show b ≠ w.heap.size + 1; omega) (.string hh)).trans c1
  rw [hW3] at c1
  replace c2 := (cell_othP (W := W2) (p := ⟨w.heap.size + 1, 0, none⟩) (q := ⟨b, f + 2, none⟩) (by show b ≠ w.heap.size + 1; omega) (.string hh)).trans c2
  rw [hW3] at c2
  clear x0 x1 x2 x3 z0 z1 z2 z3 f0 f1 f2 f3 r0 r1 r2 r3 hsz
  clear hW3
  obtain ⟨x0, x1, x2, x3⟩ := HP.out.2.2.cells; obtain ⟨z0, z1, z2, z3⟩ := HP.out.2.1.cells; obtain ⟨f0, f1, f2, f3⟩ := HP.out.2.2.frozen; obtain ⟨r0, r1, r2, r3⟩ := HP.out.2.1.frozen; have hsz := HP.out.size
  go_wp2_with (go_at_call 11; refine (HR.out _).mono ?_; rintro e w5 ⟨rfl, hb⟩; clear x0 x1 x2 x3 z0 z1 z2 z3 f0 f1 f2 f3 r0 r1 r2 r3 hsz; replace HP := Lib.hid (HP.out.below hb); clear hb; obtain ⟨x0, x1, x2, x3⟩ := HP.out.2.2.cells; obtain ⟨z0, z1, z2, z3⟩ := HP.out.2.1.cells; obtain ⟨f0, f1, f2, f3⟩ := HP.out.2.2.frozen; obtain ⟨r0, r1, r2, r3⟩ := HP.out.2.1.frozen; have hsz := HP.out.size)
  have HF := pb_end HP.out (.string ⟨#[]⟩) (.int .i64 0) (.int .i64 0) (.string ⟨#[]⟩)
  obtain ⟨y0, y1, y2, y3⟩ := HF.2.cells
  exact bodyPost_ret (v := .tuple #[.agg #[.string ⟨#[]⟩, .int .i64 0, .int .i64 0, .string ⟨#[]⟩], .int .i64 3]) (by simp [results, Tryd.results8, go_sem, y0, y1, y2, y3]) rfl ⟨rfl, HF.1⟩
set_option maxRecDepth 100000 in
set_option maxHeartbeats 8000000 in
theorem RPs_d_k3g (s S : ByteArray) (hs : s.size ≤ 100000) (hSs : S.size ≤ 100000) (m : Nat) (hm : s.size = m + 4) (hm0 : 0 < m) (hQ : s.extract m s.size = ⟨#[47, 117, 100, 112]⟩) (hP : s.extract (m + 1) s.size = ⟨#[117, 100, 112]⟩) (hS : s.extract 0 m = S) (hh oo aa : ByteArray) (hl : cutL 58 S.data.toList = [hh.data.toList, oo.data.toList, aa.data.toList]) (hh0 : 0 < hh.size) (oo0 : 0 < oo.size) (hF : countE oo.data.toList 65535 = 0) (hZ : ¬ countN oo.data.toList 65535 = 0) (hE : countE aa.data.toList 65535 = 0) (hr : rightB ⟨hh.data.toList, countN oo.data.toList 65535, countN aa.data.toList 65535, udpL⟩ = true) (w : World) :
    Calls Tryd.prog 8 #[.string s] w fun e w' => e = .returned (.tuple #[.agg #[.string hh, .int .i64 (countN oo.data.toList 65535), .int .i64 (countN aa.data.toList 65535), .string ⟨#[117, 100, 112]⟩], .int .i64 0]) ∧ Below w.heap.size w w' := by
  obtain ⟨n, hn⟩ : ∃ n, s.size = n := ⟨_, rfl⟩
  obtain ⟨m1, hm1⟩ : ∃ m1, m + 1 = m1 := ⟨_, rfl⟩
  rw [hn] at hQ hP hm
  rw [hm1] at hP
  have h4 : (4 : Int) < (n : Int) := by omega
  have h4n : 4 < n := by omega
  have kw4 : IntKind.i64.wrap ((n : Int) - 4) = (m : Int) := by rw [show (n : Int) - 4 = (m : Int) by omega]; exact IntWalk.i64_in _ (by omega)
  have kw3 : IntKind.i64.wrap ((n : Int) - 3) = (m1 : Int) := by rw [show (n : Int) - 3 = (m1 : Int) by omega]; exact IntWalk.i64_in _ (by omega)
  have hmn : (m : Int) ≤ (n : Int) := by omega
  have hmn2 : m ≤ n := by omega
  have hmn3 : (m1 : Int) ≤ (n : Int) := by omega
  have hmn4 : m1 ≤ n := by omega
  clear hm hm1 hm0
  have HC := Lib.hid (fun w0 => RCut16_any S 58 w0 hSs)
  rw [hl] at HC
  have hall : ∀ x ∈ cutL 58 S.data.toList, x.length ≤ 100000 := fun x hx => by
    have h9 := cutA_size 58 S.data.toList [] x hx
    rw [show S.data.toList.length = S.size from rfl] at h9
    simp at h9; omega
  rw [hl] at hall
  have hhs : hh.size ≤ 100000 := hall hh.data.toList (by simp)
  have oos : oo.size ≤ 100000 := hall oo.data.toList (by simp)
  have aas : aa.size ≤ 100000 := hall aa.data.toList (by simp)
  clear hall
  obtain ⟨CN, hCN⟩ : ∃ CN : ByteArray → Int, CN = fun x => countN x.data.toList 65535 := ⟨_, rfl⟩
  obtain ⟨CE, hCE⟩ : ∃ CE : ByteArray → Int, CE = fun x => countE x.data.toList 65535 := ⟨_, rfl⟩
  have HK : Hid (∀ (x : ByteArray) (w0 : World), x.size ≤ 100000 → Calls Tryd.prog 22 #[.string x, .int .i64 65535] w0 fun e w' => e = .returned (.tuple #[.int .i64 (CN x), .int .i64 (CE x)]) ∧ w0 = w') := Lib.hid (fun x w0 hx => by rw [hCN, hCE]; exact RCount_any x 65535 w0 (by unfold maxLen; omega) (by decide) (by decide))
  have n_oo : countN oo.data.toList 65535 = CN oo := by rw [hCN]
  have e_oo : countE oo.data.toList 65535 = CE oo := by rw [hCE]
  have n_aa : countN aa.data.toList 65535 = CN aa := by rw [hCN]
  have e_aa : countE aa.data.toList 65535 = CE aa := by rw [hCE]
  rw [e_oo] at hF
  rw [n_oo] at hZ
  rw [e_aa] at hE
  rw [n_aa, n_oo]
  have HR := Lib.hid (fun w0 => RRight_any hh ⟨#[117, 100, 112]⟩ (countN oo.data.toList 65535) (countN aa.data.toList 65535) w0 hhs)
  have e0 : rightB ⟨(hh : ByteArray).data.toList, countN oo.data.toList 65535, countN aa.data.toList 65535, (⟨#[117, 100, 112]⟩ : ByteArray).data.toList⟩ = true := hr
  rw [e0] at HR
  rw [n_aa, n_oo] at HR
  clear e0 hr
  clear hCN hCE n_oo e_oo n_aa e_aa
  have Z1 : (CN oo == 0) = false := beq_eq_false_iff_ne.2 hZ
  have hh1 : ((hh.size : Int) == 0) = false := beq_eq_false_iff_ne.2 (by omega)
  have hh2 : ¬ hh.size = 0 := by omega
  have hh3 : ¬ hh = ByteArray.empty := fun e => hh2 (by rw [e]; rfl)
  have oo1 : (0 : Int) < (oo.size : Int) := by omega
  have oo2 : ¬ oo.size = 0 := by omega
  have oo3 : ¬ oo = ByteArray.empty := fun e => oo2 (by rw [e]; rfl)
  have oo4 : decide ((0 : Int) < (oo.size : Int)) = true := decide_eq_true oo1
  have HPB := Lib.hid (pb_new w ⟨#[]⟩ ⟨#[117, 100, 112]⟩ 0 0)
  clear hl
  go_enter Tryd.func8, Tryd.ntmps8
  go_upto_region 12 with (first
    | (go_at_call 21; refine (HC.out _).mono ?_; rintro e w3 ⟨v, rfl, hrd, hb, hfr⟩; obtain ⟨b, f, cap, rfl, q1, q2, q3, q4⟩ := rd_open (m := 2) hrd rfl; have q5 := hfr b rfl; have q6 := hb.size; have c0 := q4 0 (by simp); have c1 := q4 1 (by simp); have c2 := q4 2 (by simp); simp only [List.getElem_cons_zero, List.getElem_cons_succ, ba_of, Nat.add_zero] at c0 c1 c2; clear q4; have HP := Lib.hid (HPB.out.below hb); clear HPB hfr hrd; simp only [World.size_alloc] at q5; clear hb; obtain ⟨x0, x1, x2, x3⟩ := HP.out.2.2.cells; obtain ⟨z0, z1, z2, z3⟩ := HP.out.2.1.cells; obtain ⟨f0, f1, f2, f3⟩ := HP.out.2.2.frozen; obtain ⟨r0, r1, r2, r3⟩ := HP.out.2.1.frozen; have hsz := HP.out.size; unfold maxLen at q2)
    | (go_at_call 22; refine (HK.out _ _ (by assumption)).mono ?_; rintro e w4 ⟨rfl, rfl⟩))
  obtain ⟨W1, hW1⟩ : ∃ W, w3.setCell ⟨w.heap.size + 1, 2, none⟩ (.int .i64 (CN aa)) = W := ⟨_, rfl⟩
  rw [hW1]
  replace HP := Lib.hid (HP.out.inn (CN aa))
  rw [hW1] at HP
  replace c0 := (cell_othP (W := w3) (p := ⟨w.heap.size + 1, 2, none⟩) (q := ⟨b, f, none⟩) (by show b ≠ w.heap.size + 1; omega) (.int .i64 (CN aa))).trans c0
  rw [hW1] at c0
  replace c1 := (cell_othP (W := w3) (p := ⟨w.heap.size + 1, 2, none⟩) (q := ⟨b, f + 1, none⟩) (by show b ≠ w.heap.size + 1; omega) (.int .i64 (CN aa))).trans c1
  rw [hW1] at c1
  replace c2 := (cell_othP (W := w3) (p := ⟨w.heap.size + 1, 2, none⟩) (q := ⟨b, f + 2, none⟩) (by show b ≠ w.heap.size + 1; omega) (.int .i64 (CN aa))).trans c2
  rw [hW1] at c2
  clear x0 x1 x2 x3 z0 z1 z2 z3 f0 f1 f2 f3 r0 r1 r2 r3 hsz
  clear hW1
  obtain ⟨x0, x1, x2, x3⟩ := HP.out.2.2.cells; obtain ⟨z0, z1, z2, z3⟩ := HP.out.2.1.cells; obtain ⟨f0, f1, f2, f3⟩ := HP.out.2.2.frozen; obtain ⟨r0, r1, r2, r3⟩ := HP.out.2.1.frozen; have hsz := HP.out.size
  go_upto_region 15 with (go_at_call 22; refine (HK.out _ _ (by assumption)).mono ?_; rintro e w4 ⟨rfl, rfl⟩)
  obtain ⟨W2, hW2⟩ : ∃ W, W1.setCell ⟨w.heap.size + 1, 1, none⟩ (.int .i64 (CN oo)) = W := ⟨_, rfl⟩
  rw [hW2]
  replace HP := Lib.hid (HP.out.out (CN oo))
  rw [hW2] at HP
  replace c0 := (cell_othP (W := W1) (p := ⟨w.heap.size + 1, 1, none⟩) (q := ⟨b, f, none⟩) (by show b ≠ w.heap.size + 1; omega) (.int .i64 (CN oo))).trans c0
  rw [hW2] at c0
  replace c1 := (cell_othP (W := W1) (p := ⟨w.heap.size + 1, 1, none⟩) (q := ⟨b, f + 1, none⟩) (by show b ≠ w.heap.size + 1; omega) (.int .i64 (CN oo))).trans c1
  rw [hW2] at c1
  replace c2 := (cell_othP (W := W1) (p := ⟨w.heap.size + 1, 1, none⟩) (q := ⟨b, f + 2, none⟩) (by show b ≠ w.heap.size + 1; omega) (.int .i64 (CN oo))).trans c2
  rw [hW2] at c2
  clear x0 x1 x2 x3 z0 z1 z2 z3 f0 f1 f2 f3 r0 r1 r2 r3 hsz
  clear hW2
  obtain ⟨x0, x1, x2, x3⟩ := HP.out.2.2.cells; obtain ⟨z0, z1, z2, z3⟩ := HP.out.2.1.cells; obtain ⟨f0, f1, f2, f3⟩ := HP.out.2.2.frozen; obtain ⟨r0, r1, r2, r3⟩ := HP.out.2.1.frozen; have hsz := HP.out.size
  go_upto_region 19 with fail
  obtain ⟨W3, hW3⟩ : ∃ W, W2.setCell ⟨w.heap.size + 1, 0, none⟩ (.string hh) = W := ⟨_, rfl⟩
  rw [hW3]
  replace HP := Lib.hid (HP.out.host hh)
  rw [hW3] at HP
  replace c0 := (cell_othP (W := W2) (p := ⟨w.heap.size + 1, 0, none⟩) (q := ⟨b, f, none⟩) (by show b ≠ w.heap.size + 1; omega) (.string hh)).trans c0
  rw [hW3] at c0
  replace c1 := (cell_othP (W := W2) (p := ⟨w.heap.size + 1, 0, none⟩) (q := ⟨b, f + 1, none⟩) (by show b ≠ w.heap.size + 1; omega) (.string hh)).trans c1
  rw [hW3] at c1
  replace c2 := (cell_othP (W := W2) (p := ⟨w.heap.size + 1, 0, none⟩) (q := ⟨b, f + 2, none⟩) (by show b ≠ w.heap.size + 1; omega) (.string hh)).trans c2
  rw [hW3] at c2
  clear x0 x1 x2 x3 z0 z1 z2 z3 f0 f1 f2 f3 r0 r1 r2 r3 hsz
  clear hW3
  obtain ⟨x0, x1, x2, x3⟩ := HP.out.2.2.cells; obtain ⟨z0, z1, z2, z3⟩ := HP.out.2.1.cells; obtain ⟨f0, f1, f2, f3⟩ := HP.out.2.2.frozen; obtain ⟨r0, r1, r2, r3⟩ := HP.out.2.1.frozen; have hsz := HP.out.size
  go_wp2_with (go_at_call 11; refine (HR.out _).mono ?_; rintro e w5 ⟨rfl, hb⟩; clear x0 x1 x2 x3 z0 z1 z2 z3 f0 f1 f2 f3 r0 r1 r2 r3 hsz; replace HP := Lib.hid (HP.out.below hb); clear hb; obtain ⟨x0, x1, x2, x3⟩ := HP.out.2.2.cells; obtain ⟨z0, z1, z2, z3⟩ := HP.out.2.1.cells; obtain ⟨f0, f1, f2, f3⟩ := HP.out.2.2.frozen; obtain ⟨r0, r1, r2, r3⟩ := HP.out.2.1.frozen; have hsz := HP.out.size)
  have HF := pb_end HP.out (.string hh) (.int .i64 (CN oo)) (.int .i64 (CN aa)) (.string ⟨#[117, 100, 112]⟩)
  obtain ⟨y0, y1, y2, y3⟩ := HF.2.cells
  exact bodyPost_ret (v := .tuple #[.agg #[.string hh, .int .i64 (CN oo), .int .i64 (CN aa), .string ⟨#[117, 100, 112]⟩], .int .i64 0]) (by simp [results, Tryd.results8, go_sem, y0, y1, y2, y3]) rfl ⟨rfl, HF.1⟩
set_option maxRecDepth 100000 in
set_option maxHeartbeats 8000000 in
theorem RPs_d_k4x (s S : ByteArray) (hs : s.size ≤ 100000) (hSs : S.size ≤ 100000) (m : Nat) (hm : s.size = m + 4) (hm0 : 0 < m) (hQ : s.extract m s.size = ⟨#[47, 117, 100, 112]⟩) (hP : s.extract (m + 1) s.size = ⟨#[117, 100, 112]⟩) (hS : s.extract 0 m = S) (l : List L8) (hl : cutL 58 S.data.toList = l) (hk : 3 < l.length) (w : World) :
    Calls Tryd.prog 8 #[.string s] w fun e w' => e = .returned (.tuple #[.agg #[.string ⟨#[]⟩, .int .i64 0, .int .i64 0, .string ⟨#[]⟩], .int .i64 3]) ∧ Below w.heap.size w w' := by
  obtain ⟨n, hn⟩ : ∃ n, s.size = n := ⟨_, rfl⟩
  obtain ⟨m1, hm1⟩ : ∃ m1, m + 1 = m1 := ⟨_, rfl⟩
  rw [hn] at hQ hP hm
  rw [hm1] at hP
  have h4 : (4 : Int) < (n : Int) := by omega
  have h4n : 4 < n := by omega
  have kw4 : IntKind.i64.wrap ((n : Int) - 4) = (m : Int) := by rw [show (n : Int) - 4 = (m : Int) by omega]; exact IntWalk.i64_in _ (by omega)
  have kw3 : IntKind.i64.wrap ((n : Int) - 3) = (m1 : Int) := by rw [show (n : Int) - 3 = (m1 : Int) by omega]; exact IntWalk.i64_in _ (by omega)
  have hmn : (m : Int) ≤ (n : Int) := by omega
  have hmn2 : m ≤ n := by omega
  have hmn3 : (m1 : Int) ≤ (n : Int) := by omega
  have hmn4 : m1 ≤ n := by omega
  clear hm hm1 hm0
  have HC := Lib.hid (fun w0 => RCut16_any S 58 w0 hSs)
  rw [hl] at HC
  obtain ⟨K, hK⟩ : ∃ K, l.length = K + 1 := ⟨l.length - 1, by omega⟩
  have hKz : (3 : Int) < ((K + 1 : Nat) : Int) := by omega
  have hKn : 3 < K + 1 := by omega
  have hKm : 2 < K := by omega
  have hKi : (2 : Int) < (K : Int) := by omega
  have hKj : (3 : Int) < (K : Int) + 1 := by omega
  have HLK := Lib.hid hK
  clear hk hK
  have HPB := Lib.hid (pb_new w ⟨#[]⟩ ⟨#[117, 100, 112]⟩ 0 0)
  clear hl
  go_enter Tryd.func8, Tryd.ntmps8
  go_wp2_with (go_at_call 21; refine (HC.out _).mono ?_; rintro e w3 ⟨v, rfl, hrd, hb, hfr⟩; obtain ⟨b, f, cap, rfl, q1, q2, q3, q4⟩ := rd_open hrd HLK.out; have q5 := hfr b rfl; clear q4; have HP := Lib.hid (HPB.out.below hb); clear HPB hfr hrd; simp only [World.size_alloc] at q5; clear hb; obtain ⟨x0, x1, x2, x3⟩ := HP.out.2.2.cells; obtain ⟨z0, z1, z2, z3⟩ := HP.out.2.1.cells; obtain ⟨f0, f1, f2, f3⟩ := HP.out.2.2.frozen; obtain ⟨r0, r1, r2, r3⟩ := HP.out.2.1.frozen; have hsz := HP.out.size; unfold maxLen at q2)
  have HF := pb_end HP.out (.string ⟨#[]⟩) (.int .i64 0) (.int .i64 0) (.string ⟨#[]⟩)
  obtain ⟨y0, y1, y2, y3⟩ := HF.2.cells
  exact bodyPost_ret (v := .tuple #[.agg #[.string ⟨#[]⟩, .int .i64 0, .int .i64 0, .string ⟨#[]⟩], .int .i64 3]) (by simp [results, Tryd.results8, go_sem, y0, y1, y2, y3]) rfl ⟨rfl, HF.1⟩
end Go.Proofs.YtkgfinhepbipeaaDoor
