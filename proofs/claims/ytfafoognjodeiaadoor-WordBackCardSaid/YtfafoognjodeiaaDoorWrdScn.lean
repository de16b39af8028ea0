/- The contract of scan: one word, in three loops that gotos connect (gen_wrdscn.py wrote it). -/
import Derived.Test.YtfafoognjodeiaaDoorWrdPrg
import Derived.Test.YtfafoognjodeiaaDoorWrdBar
import Derived.Test.YtfafoognjodeiaaDoorRefWrd2
import Derived.Test.YtfafoognjodeiaaDoorTmpOwn
import Derived.Test.YtfafoognjodeiaaDoorWrdJmp
import Derived.Maps.AppendAt
import Derived.Deep.Cut
import Derived.WalkMore
namespace Go.Proofs.YtfafoognjodeiaaDoor
open Go.RowKit Go.Sort
open Nw W15
set_option linter.unusedVariables false
theorem isEsc_any (s : ByteArray) (w : World) : Calls Tryd.prog 26 #[.string s] w fun e w' => e = .returned (.bool (escB s.data.toList)) ∧ w' = w := by
  have H1 := Lib.hid (fun W => Tryd.strings_HasPrefix s ⟨#[92, 34]⟩ W)
  have H2 := Lib.hid (fun W => Tryd.strings_HasPrefix s ⟨#[92, 92]⟩ W)
  have HE : Hid (escB s.data.toList = (Lib.hasPrefix s.data.toList (⟨#[92, 34]⟩ : ByteArray).data.toList || Lib.hasPrefix s.data.toList (⟨#[92, 92]⟩ : ByteArray).data.toList)) := Lib.hid rfl
  generalize Lib.hasPrefix s.data.toList (⟨#[92, 34]⟩ : ByteArray).data.toList = A at *
  generalize Lib.hasPrefix s.data.toList (⟨#[92, 92]⟩ : ByteArray).data.toList = B at *
  generalize escB s.data.toList = E at *
  cases A <;> cases B
  all_goals
    go_enter Tryd.func26, Tryd.ntmps26
    go_wp2_with first
      | (go_at_call 35; (with_reducible refine (H1.out _).mono ?_); rintro e w1 ⟨rfl, rfl⟩)
      | (go_at_call 35; (with_reducible refine (H2.out _).mono ?_); rintro e w1 ⟨rfl, rfl⟩)
    go_ret
    exact ⟨ret_bW (by rw [HE.out]; rfl), rfl⟩
/-- The word on the way: a row of the call's own. -/
def WO (w0 W : World) (v5 : Value) (O : L8) : Prop := Below w0.heap.size w0 W ∧ W.ownsRow w0.heap.size 5 1 v5 O.length (O.map encB)
theorem WO.byte {w0 W W3 : World} {v5 v' : Value} {O : L8} (h : WO w0 W v5 O) (c : UInt8) {o : Obj} (hown : W3.ownsRow w0.heap.size 5 1 v' (O.length + 1) (O.map encB ++ [.int .u8 (c.toNat : Int)])) (hg : (W.alloc o).grownBy W3 v5.ownBlock) : WO w0 W3 v' (O ++ [c]) := by
  refine ⟨(h.1.alloc h.1.size o).grown hg (by have := h.1.size; simp; omega) fun q hq => (h.2.lt q hq).1, ?_⟩
  rw [List.length_append, map_snoc]; exact hown
/-- A frame by its slots. -/
theorem frame_eq (t : Array Value) (n : Nat) (h : t.size = n) : t = List.toArray ((List.range n).map fun i => t.getD i undef) := by
  apply Array.ext
  · simp [h]
  · intro i h1 h2
    simp [Array.getD, h1]
set_option maxRecDepth 100000 in
theorem slots_eq (u : Nat → Value) : (List.range 89).map u = u 0 :: u 1 :: u 2 :: u 3 :: u 4 :: u 5 :: u 6 :: u 7 :: u 8 :: u 9 :: u 10 :: u 11 :: u 12 :: u 13 :: u 14 :: u 15 :: u 16 :: u 17 :: u 18 :: u 19 :: u 20 :: u 21 :: u 22 :: u 23 :: u 24 :: u 25 :: u 26 :: u 27 :: u 28 :: u 29 :: u 30 :: u 31 :: u 32 :: u 33 :: u 34 :: u 35 :: u 36 :: u 37 :: u 38 :: u 39 :: u 40 :: u 41 :: u 42 :: u 43 :: u 44 :: u 45 :: u 46 :: u 47 :: u 48 :: u 49 :: u 50 :: u 51 :: u 52 :: u 53 :: u 54 :: u 55 :: u 56 :: u 57 :: u 58 :: u 59 :: u 60 :: u 61 :: u 62 :: u 63 :: u 64 :: u 65 :: u 66 :: u 67 :: u 68 :: u 69 :: u 70 :: u 71 :: u 72 :: u 73 :: u 74 :: u 75 :: u 76 :: u 77 :: u 78 :: u 79 :: u 80 :: u 81 :: u 82 :: u 83 :: u 84 :: u 85 :: u 86 :: u 87 :: u 88 :: [] := by kernel_rfl
/-- What holds at a label: the place, the word so far, and what is left decides by f. -/
def JS (f : L8 → L8 → Option (L8 × L8)) (s : ByteArray) (w0 : World) (R : Option (L8 × L8)) (a : Act) (w : World) : Prop :=
  ∃ (k : Nat) (O : L8) (v5 : Value), a.defers = [] ∧ a.tmps.size = 89 ∧ a.tmps.getD 0 undef = .string s ∧ a.tmps.getD 5 undef = v5 ∧ a.tmps.getD 6 undef = .int .i64 (k : Int) ∧ k ≤ s.size ∧ O.length ≤ k ∧ WO w0 w v5 O ∧ f O (s.data.toList.drop k) = R
set_option maxRecDepth 100000 in
theorem JS.elim {m : Act → World → Prop} {f : L8 → L8 → Option (L8 × L8)} {s : ByteArray} {w0 : World} {R : Option (L8 × L8)} {a : Act} {w : World}
    (h : ∀ (k : Nat) (O : L8) (v5 : Value) (u : Nat → Value), k ≤ s.size → O.length ≤ k → WO w0 w v5 O → f O (s.data.toList.drop k) = R → m { tmps := List.toArray (.string s :: u 1 :: u 2 :: u 3 :: u 4 :: v5 :: .int .i64 (k : Int) :: u 7 :: u 8 :: u 9 :: u 10 :: u 11 :: u 12 :: u 13 :: u 14 :: u 15 :: u 16 :: u 17 :: u 18 :: u 19 :: u 20 :: u 21 :: u 22 :: u 23 :: u 24 :: u 25 :: u 26 :: u 27 :: u 28 :: u 29 :: u 30 :: u 31 :: u 32 :: u 33 :: u 34 :: u 35 :: u 36 :: u 37 :: u 38 :: u 39 :: u 40 :: u 41 :: u 42 :: u 43 :: u 44 :: u 45 :: u 46 :: u 47 :: u 48 :: u 49 :: u 50 :: u 51 :: u 52 :: u 53 :: u 54 :: u 55 :: u 56 :: u 57 :: u 58 :: u 59 :: u 60 :: u 61 :: u 62 :: u 63 :: u 64 :: u 65 :: u 66 :: u 67 :: u 68 :: u 69 :: u 70 :: u 71 :: u 72 :: u 73 :: u 74 :: u 75 :: u 76 :: u 77 :: u 78 :: u 79 :: u 80 :: u 81 :: u 82 :: u 83 :: u 84 :: u 85 :: u 86 :: u 87 :: u 88 :: []), defers := [] } w)
    (hJ : JS f s w0 R a w) : m a w := by
  obtain ⟨k, O, v5, h1, h2, h3, h4, h5, h6, h7, h8, h9⟩ := hJ
  obtain ⟨t, d⟩ := a
  simp only [] at h1 h2 h3 h4 h5
  subst h1
  have e := frame_eq t 89 h2
  rw [slots_eq, h3, h4, h5] at e
  have hm := h k O v5 (fun i => t.getD i undef) h6 h7 h8 h9
  rw [← e] at hm
  exact hm
def Sm (n : Nat) (_ : Nat) (a : Act) (_ : World) : Nat := n - (intOf (a.tmps.getD 6 undef)).toNat
theorem sm_at {n l k : Nat} {a : Act} {w : World} (h : a.tmps.getD 6 undef = .int .i64 (k : Int)) : Sm n l a w = n - k := by unfold Sm; rw [h]; rfl
/-- What scan answers. -/
def ScA (s : ByteArray) (R : Option (L8 × L8)) (e : Ending) : Prop := match R with
  | none => e = .returned (.tuple #[.string ⟨#[]⟩, .int .i64 0, .bool false])
  | some (p, r) => ∃ (q : ByteArray) (k : Nat), q.data.toList = p ∧ k ≤ s.size ∧ s.data.toList.drop k = r ∧ e = .returned (.tuple #[.string q, .int .i64 (k : Int), .bool true])
def ScO (s : ByteArray) (R : Option (L8 × L8)) (w : World) (e : Ending) (w' : World) : Prop := ScA s R e ∧ Below w.heap.size w w'
theorem scA_none {s : ByteArray} {R : Option (L8 × L8)} (h : R = none) : ScA s R (.returned (.tuple #[.string ⟨#[]⟩, .int .i64 0, .bool false])) := by rw [h]; rfl
theorem scA_some {s : ByteArray} {R : Option (L8 × L8)} {q : ByteArray} {k : Nat} (h : R = some (q.data.toList, s.data.toList.drop k)) (hk : k ≤ s.size) : ScA s R (.returned (.tuple #[.string q, .int .i64 (k : Int), .bool true])) := by rw [h]; exact ⟨q, k, rfl, hk, rfl, rfl⟩
set_option maxRecDepth 100000 in
set_option maxHeartbeats 16000000 in
theorem scan_any (s : ByteArray) (w : World) (hs : s.size ≤ 200000) : Calls Tryd.prog 16 #[.string s] w (ScO s (sc [] s.data.toList) w) := by
  obtain ⟨j0, hj, hy0, hy1, hy2⟩ := infoB
  obtain ⟨R, hR⟩ : ∃ R, sc [] s.data.toList = R := ⟨_, rfl⟩
  have HR0 : Hid (sc [] (s.data.toList.drop 0) = R) := Lib.hid (by rw [List.drop_zero]; exact hR)
  rw [hR]
  unfold ScO
  clear hR
  go_enter Tryd.func16, Tryd.ntmps16
  go_wp2
  refine wp_scope4 (JS scS s w R) (JS scD s w R) (JS sc s w R) (fun _ _ => False) (T3 := .skip) (Sm s.size) (fun _ => rfl) (fun _ => rfl) (fun _ => rfl) (fun ⟨_, _, h⟩ => h.elim) ?first ?p0 ?p1 ?p2 (fun m _ a w h => h.elim)
  case first =>
    intro K hO
    have HO := Lib.hid (hO (s.size + 1))
    clear hO
    go_upto_region 3 with fail
    refine wp_label ?_
    rename_i K9 h9
    refine h9 _ _ (HO.out.f2 _ _ ⟨0, [], .slice none 0 0, rfl, rfl, rfl, rfl, rfl, Nat.zero_le _, Nat.le_refl _, ⟨Below.refl _ _, owns_nil _ _ _⟩, HR0.out⟩ ?_)
    rw [sm_at (k := 0) rfl]
    omega
  case p0 =>
    intro m hm a wr hJ
    refine JS.elim ?_ hJ
    clear hJ
    intro k0 O0 a5 u hk0 hOk0 hWO0 hR0
    subst hm
    intro K hO
    rw [sm_at (k := k0) rfl] at hO
    have HO := Lib.hid hO
    have HWO0 := Lib.hid hWO0
    have HRK0 := Lib.hid hR0
    obtain ⟨n, hn⟩ : ∃ n, s.size = n := ⟨_, rfl⟩
    have HSN := Lib.hid hn
    rw [hn] at HO
    have hkn0 : k0 ≤ n := by omega
    have hn2 : n ≤ 200000 := by omega
    clear hO hWO0 hR0 HR0 hk0
    go_wp2
    go_loopw [5, 6] (fun v5 i6 wq => ∃ (k : Nat) (O : L8), k0 ≤ k ∧ k ≤ n ∧ O.length ≤ k ∧ i6 = .int .i64 (k : Int) ∧ Hid (WO w wq v5 O) ∧ Hid (scS O (s.data.toList.drop k) = R)) (fun _ i6 _ => n - (intOf i6).toNat)
    case atStart => exact ⟨k0, O0, Nat.le_refl _, hkn0, hOk0, rfl, HWO0, HRK0⟩
    case round =>
      clear HWO0 HRK0
      obtain ⟨k, O, hk0k, hkn, hOk, rfl, HWO, HRK⟩ := hrel
      obtain ⟨on, hon⟩ : ∃ on, O.length = on := ⟨_, rfl⟩
      obtain ⟨YS, hYS⟩ : ∃ YS, O.map encB = YS := ⟨_, rfl⟩
      have hown5 := HWO.out.2
      rw [hon, hYS] at hown5
      have HON := Lib.hid hon
      have HYS := Lib.hid hYS
      rw [hon] at hOk
      clear hon hYS
      obtain ⟨b5, c5, he5⟩ := own_shapeW hown5
      subst he5
      by_cases hlt : k < n
      · have hks : k < s.size := by have := HSN.out; omega
        have hkz : (k : Int) < (n : Int) := by omega
        have HDK := Lib.hid (drop_cW s k hks)
        obtain ⟨c, hc⟩ : ∃ c, s[k]'hks = c := ⟨_, rfl⟩
        rw [hc] at HDK
        have kw : IntKind.i64.wrap ((k : Int) + 1) = (k : Int) + 1 := IntWalk.i64_in _ (by omega)
        by_cases h39 : c = 39
        · have t39 : ((c.toNat : Int) == 39) = true := u8_tW (d := 39) h39
          have H39 := Lib.hid h39
          clear h39
          go_wp2
          go_step3
          show K 2 _ _
          refine HO.out.k2 _ _ ⟨k + 1, O, .slice b5 on c5, rfl, rfl, rfl, rfl, rfl, by have := HSN.out; omega, by rw [HON.out]; omega, HWO.out, ?_⟩ ?_
          · have := HRK.out
            rw [HDK.out, H39.out, scS_39] at this; exact this
          · rw [sm_at (k := k + 1) rfl]
            omega
        have f39 : ((c.toNat : Int) == 39) = false := u8_fW (d := 39) h39
        have HP := Lib.hid h39
        clear h39
        go_wp2_with first
          | (at_builtin; refine wpList_append_own _ rfl _ _ 48 rfl w.heap.size 5 j0 _ 1 1 Tryd.underlying48 hj hy0 hy1 hy2 rfl (by decide) _ _ _ rfl (hown5.alloc _) ⟨_, 0, none⟩ 1 1 [.int .u8 (c.toNat : Int)] rfl rfl ?c1_1 ?c2_1 ?c3_1 ?c4_1 ?c5_1 ?_)
        try (case c1_1 => exact cells_new _ _ _)
        case c2_1 => first | exact one_one _ | rfl
        case c3_1 => unfold maxLen; omega
        case c4_1 => omega
        case c5_1 => have := HWO.out.1.size; simp; omega
        intro v' w3 hown' hgrow _
        have HW3 := Lib.hid (HWO.out.byte c (by rw [HON.out, HYS.out]; exact hown') hgrow)
        clear hown' hgrow
        go_wp2
        go_roundw
        case rel => exact ⟨k + 1, O ++ [c], by omega, by omega, by rw [List.length_append, HON.out]; show on + 1 ≤ _; omega, by go_num, HW3, Lib.hid (by
          have := HRK.out
          rw [HDK.out, scS_c HP.out] at this; exact this)⟩
        case measure => simp [intOf]; omega
      · have hkz : ¬ (k : Int) < (n : Int) := by omega
        have HE : Hid (R = none) := Lib.hid (by
          have := HRK.out
          rw [drop_nW s k (by have := HSN.out; omega), scS_nil] at this
          exact this.symm)
        go_wp2
        simp only [jumpsE]
        go_ret3
        exact ⟨scA_none HE.out, HWO.out.1⟩
  case p1 =>
    intro m hm a wr hJ
    refine JS.elim ?_ hJ
    clear hJ
    intro k0 O0 a5 u hk0 hOk0 hWO0 hR0
    subst hm
    intro K hO
    rw [sm_at (k := k0) rfl] at hO
    have HO := Lib.hid hO
    have HWO0 := Lib.hid hWO0
    have HRK0 := Lib.hid hR0
    obtain ⟨n, hn⟩ : ∃ n, s.size = n := ⟨_, rfl⟩
    have HSN := Lib.hid hn
    rw [hn] at HO
    have hkn0 : k0 ≤ n := by omega
    have hn2 : n ≤ 200000 := by omega
    clear hO hWO0 hR0 HR0 hk0
    go_wp2
    go_loopw [5, 6] (fun v5 i6 wq => ∃ (k : Nat) (O : L8), k0 ≤ k ∧ k ≤ n ∧ O.length ≤ k ∧ i6 = .int .i64 (k : Int) ∧ Hid (WO w wq v5 O) ∧ Hid (scD O (s.data.toList.drop k) = R)) (fun _ i6 _ => n - (intOf i6).toNat)
    case atStart => exact ⟨k0, O0, Nat.le_refl _, hkn0, hOk0, rfl, HWO0, HRK0⟩
    case round =>
      clear HWO0 HRK0
      obtain ⟨k, O, hk0k, hkn, hOk, rfl, HWO, HRK⟩ := hrel
      obtain ⟨on, hon⟩ : ∃ on, O.length = on := ⟨_, rfl⟩
      obtain ⟨YS, hYS⟩ : ∃ YS, O.map encB = YS := ⟨_, rfl⟩
      have hown5 := HWO.out.2
      rw [hon, hYS] at hown5
      have HON := Lib.hid hon
      have HYS := Lib.hid hYS
      rw [hon] at hOk
      clear hon hYS
      obtain ⟨b5, c5, he5⟩ := own_shapeW hown5
      subst he5
      by_cases hlt : k < n
      · have hks : k < s.size := by have := HSN.out; omega
        have hkz : (k : Int) < (n : Int) := by omega
        have HDK := Lib.hid (drop_cW s k hks)
        obtain ⟨c, hc⟩ : ∃ c, s[k]'hks = c := ⟨_, rfl⟩
        rw [hc] at HDK
        have kw : IntKind.i64.wrap ((k : Int) + 1) = (k : Int) + 1 := IntWalk.i64_in _ (by omega)
        by_cases h34 : c = 34
        · have t34 : ((c.toNat : Int) == 34) = true := u8_tW (d := 34) h34
          have H34 := Lib.hid h34
          clear h34
          go_wp2
          go_step3
          show K 2 _ _
          refine HO.out.k2 _ _ ⟨k + 1, O, .slice b5 on c5, rfl, rfl, rfl, rfl, rfl, by have := HSN.out; omega, by rw [HON.out]; omega, HWO.out, ?_⟩ ?_
          · have := HRK.out
            rw [HDK.out, H34.out, scD_34] at this; exact this
          · rw [sm_at (k := k + 1) rfl]
            omega
        have f34 : ((c.toNat : Int) == 34) = false := u8_fW (d := 34) h34
        have HP := Lib.hid h34
        obtain ⟨Z, hZ⟩ : ∃ Z, s.extract k n = Z := ⟨_, rfl⟩
        have hZl : Z.data.toList = s.data.toList.drop k := by
          rw [← hZ, ext_takeW, List.take_of_length_le]
          rw [List.length_drop, show s.data.toList.length = s.size from rfl, HSN.out]
          exact Nat.le_refl _
        have HX := Lib.hid (fun W => isEsc_any Z W)
        rw [hZl] at HX
        clear hZl h34
        rcases escB_cases (s.data.toList.drop k) with ⟨he, d, r, hl, hd⟩ | ⟨he, hno⟩
        · rw [he] at HX
          have hkl : k + 1 < n := by
            have h1 : (s.data.toList.drop k).length = n - k := by rw [List.length_drop, show s.data.toList.length = s.size from rfl, HSN.out]
            rw [hl, List.length_cons, List.length_cons] at h1
            omega
          have hks2 : k + 1 < s.size := by have := HSN.out; omega
          have hkz3 : (k : Int) + 1 < (n : Int) := by omega
          have kk0 : (0 : Int) ≤ (k : Int) + 1 := by omega
          have kk1 : ((k : Int) + 1).toNat = k + 1 := by omega
          have kw2 : IntKind.i64.wrap ((k : Int) + 1 + 1) = (k : Int) + 1 + 1 := IntWalk.i64_in _ (by omega)
          have hd2 : s[k + 1]'hks2 = d := by
            have h1 := drop_cW s k hks
            rw [hl, drop_cW s (k + 1) hks2] at h1
            injection h1 with _ h1
            injection h1 with h1 _
            exact h1.symm
          have HDD : Hid (s.data.toList.drop k = 92 :: d :: s.data.toList.drop (k + 2)) := Lib.hid (by
            have h1 := drop_cW s k hks
            rw [drop_cW s (k + 1) hks2, hd2] at h1
            rw [hl] at h1 ⊢
            injection h1 with _ h1
            injection h1 with _ h1
            rw [h1])
          have HD := Lib.hid hd
          clear he hl hd
          go_wp2_with first
            | (go_at_call 26; refine (HX.out _).mono ?_; rintro e w2 ⟨rfl, rfl⟩)
            | (at_builtin; refine wpList_append_own _ rfl _ _ 48 rfl w.heap.size 5 j0 _ 1 1 Tryd.underlying48 hj hy0 hy1 hy2 rfl (by decide) _ _ _ rfl (hown5.alloc _) ⟨_, 0, none⟩ 1 1 [.int .u8 (d.toNat : Int)] rfl rfl ?c1_2 ?c2_2 ?c3_2 ?c4_2 ?c5_2 ?_)
          try (case c1_2 => exact cells_new _ _ _)
          case c2_2 => first | exact one_one _ | rfl
          case c3_2 => unfold maxLen; omega
          case c4_2 => omega
          case c5_2 => have := HWO.out.1.size; simp; omega
          intro v' w3 hown' hgrow _
          have HW3 := Lib.hid (HWO.out.byte d (by rw [HON.out, HYS.out]; exact hown') hgrow)
          clear hown' hgrow
          go_wp2
          go_roundw
          case rel => exact ⟨k + 2, O ++ [d], by omega, by omega, by rw [List.length_append, HON.out]; show on + 1 ≤ _; omega, by go_num, HW3, Lib.hid (by
            have := HRK.out
            rw [HDD.out, scD_esc HD.out] at this; exact this)⟩
          case measure => simp [intOf]; omega
        · rw [he] at HX
          have HNE : Hid (escB (c :: s.data.toList.drop (k + 1)) = false) := Lib.hid (by rw [← HDK.out]; exact he)
          clear he hno
          go_wp2_with first
            | (go_at_call 26; refine (HX.out _).mono ?_; rintro e w2 ⟨rfl, rfl⟩)
            | (at_builtin; refine wpList_append_own _ rfl _ _ 48 rfl w.heap.size 5 j0 _ 1 1 Tryd.underlying48 hj hy0 hy1 hy2 rfl (by decide) _ _ _ rfl (hown5.alloc _) ⟨_, 0, none⟩ 1 1 [.int .u8 (c.toNat : Int)] rfl rfl ?c1_3 ?c2_3 ?c3_3 ?c4_3 ?c5_3 ?_)
          try (case c1_3 => exact cells_new _ _ _)
          case c2_3 => first | exact one_one _ | rfl
          case c3_3 => unfold maxLen; omega
          case c4_3 => omega
          case c5_3 => have := HWO.out.1.size; simp; omega
          intro v' w3 hown' hgrow _
          have HW3 := Lib.hid (HWO.out.byte c (by rw [HON.out, HYS.out]; exact hown') hgrow)
          clear hown' hgrow
          go_wp2
          go_roundw
          case rel => exact ⟨k + 1, O ++ [c], by omega, by omega, by rw [List.length_append, HON.out]; show on + 1 ≤ _; omega, by go_num, HW3, Lib.hid (by
            have := HRK.out
            rw [HDK.out, scD_more HP.out HNE.out] at this; exact this)⟩
          case measure => simp [intOf]; omega
      · have hkz : ¬ (k : Int) < (n : Int) := by omega
        have HE : Hid (R = none) := Lib.hid (by
          have := HRK.out
          rw [drop_nW s k (by have := HSN.out; omega), scD_nil] at this
          exact this.symm)
        go_wp2
        simp only [jumpsE]
        go_ret3
        exact ⟨scA_none HE.out, HWO.out.1⟩
  case p2 =>
    intro m hm a wr hJ
    refine JS.elim ?_ hJ
    clear hJ
    intro k0 O0 a5 u hk0 hOk0 hWO0 hR0
    subst hm
    intro K hO
    rw [sm_at (k := k0) rfl] at hO
    have HO := Lib.hid hO
    have HWO0 := Lib.hid hWO0
    have HRK0 := Lib.hid hR0
    obtain ⟨n, hn⟩ : ∃ n, s.size = n := ⟨_, rfl⟩
    have HSN := Lib.hid hn
    rw [hn] at HO
    have hkn0 : k0 ≤ n := by omega
    have hn2 : n ≤ 200000 := by omega
    clear hO hWO0 hR0 HR0 hk0
    go_wp2
    go_loopw [5, 6] (fun v5 i6 wq => ∃ (k : Nat) (O : L8), k0 ≤ k ∧ k ≤ n ∧ O.length ≤ k ∧ i6 = .int .i64 (k : Int) ∧ Hid (WO w wq v5 O) ∧ Hid (sc O (s.data.toList.drop k) = R)) (fun _ i6 _ => n - (intOf i6).toNat)
    case atStart => exact ⟨k0, O0, Nat.le_refl _, hkn0, hOk0, rfl, HWO0, HRK0⟩
    case round =>
      clear HWO0 HRK0
      obtain ⟨k, O, hk0k, hkn, hOk, rfl, HWO, HRK⟩ := hrel
      obtain ⟨on, hon⟩ : ∃ on, O.length = on := ⟨_, rfl⟩
      obtain ⟨YS, hYS⟩ : ∃ YS, O.map encB = YS := ⟨_, rfl⟩
      have hown5 := HWO.out.2
      rw [hon, hYS] at hown5
      have HON := Lib.hid hon
      have HYS := Lib.hid hYS
      rw [hon] at hOk
      clear hon hYS
      obtain ⟨b5, c5, he5⟩ := own_shapeW hown5
      subst he5
      by_cases hlt : k < n
      · have hks : k < s.size := by have := HSN.out; omega
        have hkz : (k : Int) < (n : Int) := by omega
        have HDK := Lib.hid (drop_cW s k hks)
        obtain ⟨c, hc⟩ : ∃ c, s[k]'hks = c := ⟨_, rfl⟩
        rw [hc] at HDK
        have kw : IntKind.i64.wrap ((k : Int) + 1) = (k : Int) + 1 := IntWalk.i64_in _ (by omega)
        by_cases h32 : c = 32
        · have t32 : ((c.toNat : Int) == 32) = true := u8_tW (d := 32) h32
          have H32 := Lib.hid h32
          clear h32
          rcases own_cases HWO.out.2 with ⟨hv, hO0⟩ | ⟨g, cap, hv, hcv⟩
          · rw [hv]
            have hcv := conv_nil wr
            have HE : Hid (R = some ((⟨#[]⟩ : ByteArray).data.toList, s.data.toList.drop k)) := Lib.hid (by
              have := HRK.out
              rw [hO0] at this
              rw [HDK.out, H32.out, sc_bl (by decide)] at this; rw [HDK.out, H32.out]; exact this.symm)
            clear hO0 hv
            go_wp2
            simp only [jumpsE]
            go_ret3
            exact ⟨scA_some HE.out (by have := HSN.out; omega), HWO.out.1⟩
          · obtain ⟨q, hq⟩ : ∃ q : ByteArray, ⟨O.toArray⟩ = q := ⟨_, rfl⟩
            rw [hq] at hcv
            rw [HON.out] at hv hcv
            rw [hv]
            have HE : Hid (R = some (q.data.toList, s.data.toList.drop k)) := Lib.hid (by
              have := HRK.out
              rw [← hq]
              rw [HDK.out, H32.out, sc_bl (by decide)] at this; rw [HDK.out, H32.out]; exact this.symm)
            clear hq hv
            go_wp2
            simp only [jumpsE]
            go_ret3
            exact ⟨scA_some HE.out (by have := HSN.out; omega), HWO.out.1⟩
        have f32 : ((c.toNat : Int) == 32) = false := u8_fW (d := 32) h32
        by_cases h9 : c = 9
        · have t9 : ((c.toNat : Int) == 9) = true := u8_tW (d := 9) h9
          have H9 := Lib.hid h9
          clear h9
          clear h32
          rcases own_cases HWO.out.2 with ⟨hv, hO0⟩ | ⟨g, cap, hv, hcv⟩
          · rw [hv]
            have hcv := conv_nil wr
            have HE : Hid (R = some ((⟨#[]⟩ : ByteArray).data.toList, s.data.toList.drop k)) := Lib.hid (by
              have := HRK.out
              rw [hO0] at this
              rw [HDK.out, H9.out, sc_bl (by decide)] at this; rw [HDK.out, H9.out]; exact this.symm)
            clear hO0 hv
            go_wp2
            simp only [jumpsE]
            go_ret3
            exact ⟨scA_some HE.out (by have := HSN.out; omega), HWO.out.1⟩
          · obtain ⟨q, hq⟩ : ∃ q : ByteArray, ⟨O.toArray⟩ = q := ⟨_, rfl⟩
            rw [hq] at hcv
            rw [HON.out] at hv hcv
            rw [hv]
            have HE : Hid (R = some (q.data.toList, s.data.toList.drop k)) := Lib.hid (by
              have := HRK.out
              rw [← hq]
              rw [HDK.out, H9.out, sc_bl (by decide)] at this; rw [HDK.out, H9.out]; exact this.symm)
            clear hq hv
            go_wp2
            simp only [jumpsE]
            go_ret3
            exact ⟨scA_some HE.out (by have := HSN.out; omega), HWO.out.1⟩
        have f9 : ((c.toNat : Int) == 9) = false := u8_fW (d := 9) h9
        by_cases h39 : c = 39
        · have t39 : ((c.toNat : Int) == 39) = true := u8_tW (d := 39) h39
          have H39 := Lib.hid h39
          clear h39
          clear h32 h9
          go_wp2
          go_step3
          show K 0 _ _
          refine HO.out.k0 _ _ ⟨k + 1, O, .slice b5 on c5, rfl, rfl, rfl, rfl, rfl, by have := HSN.out; omega, by rw [HON.out]; omega, HWO.out, ?_⟩ ?_
          · have := HRK.out
            rw [HDK.out, H39.out, sc_39] at this; exact this
          · rw [sm_at (k := k + 1) rfl]
            omega
        have f39 : ((c.toNat : Int) == 39) = false := u8_fW (d := 39) h39
        by_cases h34 : c = 34
        · have t34 : ((c.toNat : Int) == 34) = true := u8_tW (d := 34) h34
          have H34 := Lib.hid h34
          clear h34
          clear h32 h9 h39
          go_wp2
          go_step3
          show K 1 _ _
          refine HO.out.k1 _ _ ⟨k + 1, O, .slice b5 on c5, rfl, rfl, rfl, rfl, rfl, by have := HSN.out; omega, by rw [HON.out]; omega, HWO.out, ?_⟩ ?_
          · have := HRK.out
            rw [HDK.out, H34.out, sc_34] at this; exact this
          · rw [sm_at (k := k + 1) rfl]
            omega
        have f34 : ((c.toNat : Int) == 34) = false := u8_fW (d := 34) h34
        by_cases h92 : c = 92
        · have t92 : ((c.toNat : Int) == 92) = true := u8_tW (d := 92) h92
          have H92 := Lib.hid h92
          clear h92
          by_cases h2 : k + 1 < n
          · have hks2 : k + 1 < s.size := by have := HSN.out; omega
            have hn3 : ((k : Int) + 1 == (n : Int)) = false := beq_eq_false_iff_ne.2 (by omega)
            have hkz3 : (k : Int) + 1 < (n : Int) := by omega
            have kk0 : (0 : Int) ≤ (k : Int) + 1 := by omega
            have kk1 : ((k : Int) + 1).toNat = k + 1 := by omega
            have kw2 : IntKind.i64.wrap ((k : Int) + 1 + 1) = (k : Int) + 1 + 1 := IntWalk.i64_in _ (by omega)
            obtain ⟨d, hd⟩ : ∃ d, s[k + 1]'hks2 = d := ⟨_, rfl⟩
            have HDD : Hid (s.data.toList.drop (k + 1) = d :: s.data.toList.drop (k + 2)) := Lib.hid (by rw [drop_cW s (k + 1) hks2, hd])
            clear h32 h9 h39 h34
            go_wp2_with first
              | (at_builtin; refine wpList_append_own _ rfl _ _ 48 rfl w.heap.size 5 j0 _ 1 1 Tryd.underlying48 hj hy0 hy1 hy2 rfl (by decide) _ _ _ rfl (hown5.alloc _) ⟨_, 0, none⟩ 1 1 [.int .u8 (d.toNat : Int)] rfl rfl ?c1_4 ?c2_4 ?c3_4 ?c4_4 ?c5_4 ?_)
            try (case c1_4 => exact cells_new _ _ _)
            case c2_4 => first | exact one_one _ | rfl
            case c3_4 => unfold maxLen; omega
            case c4_4 => omega
            case c5_4 => have := HWO.out.1.size; simp; omega
            intro v' w3 hown' hgrow _
            have HW3 := Lib.hid (HWO.out.byte d (by rw [HON.out, HYS.out]; exact hown') hgrow)
            clear hown' hgrow
            go_wp2
            go_roundw
            case rel => exact ⟨k + 2, O ++ [d], by omega, by omega, by rw [List.length_append, HON.out]; show on + 1 ≤ _; omega, by go_num, HW3, Lib.hid (by
              have := HRK.out
              rw [HDK.out, H92.out, HDD.out, sc_92] at this; exact this)⟩
            case measure => simp [intOf]; omega
          · have hn3 : ((k : Int) + 1 == (n : Int)) = true := beq_iff_eq.2 (by omega)
            have HE : Hid (R = none) := Lib.hid (by
              have := HRK.out
              rw [HDK.out, H92.out, drop_nW s (k + 1) (by have := HSN.out; omega), sc_92e] at this
              exact this.symm)
            clear h32 h9 h39 h34
            go_wp2
            simp only [jumpsE]
            go_ret3
            exact ⟨scA_none HE.out, HWO.out.1⟩
        have f92 : ((c.toNat : Int) == 92) = false := u8_fW (d := 92) h92
        have HB : Hid (isBl c = false) := Lib.hid (by unfold isBl; simp [h32, h9])
        have HP := Lib.hid (And.intro h92 (And.intro h39 h34))
        clear h32 h9 h39 h34 h92
        go_wp2_with first
          | (at_builtin; refine wpList_append_own _ rfl _ _ 48 rfl w.heap.size 5 j0 _ 1 1 Tryd.underlying48 hj hy0 hy1 hy2 rfl (by decide) _ _ _ rfl (hown5.alloc _) ⟨_, 0, none⟩ 1 1 [.int .u8 (c.toNat : Int)] rfl rfl ?c1_5 ?c2_5 ?c3_5 ?c4_5 ?c5_5 ?_)
        try (case c1_5 => exact cells_new _ _ _)
        case c2_5 => first | exact one_one _ | rfl
        case c3_5 => unfold maxLen; omega
        case c4_5 => omega
        case c5_5 => have := HWO.out.1.size; simp; omega
        intro v' w3 hown' hgrow _
        have HW3 := Lib.hid (HWO.out.byte c (by rw [HON.out, HYS.out]; exact hown') hgrow)
        clear hown' hgrow
        go_wp2
        go_roundw
        case rel => exact ⟨k + 1, O ++ [c], by omega, by omega, by rw [List.length_append, HON.out]; show on + 1 ≤ _; omega, by go_num, HW3, Lib.hid (by
          have := HRK.out
          rw [HDK.out, sc_c HB.out HP.out.1 HP.out.2.1 HP.out.2.2] at this; exact this)⟩
        case measure => simp [intOf]; omega
      · have hkz : ¬ (k : Int) < (n : Int) := by omega
        have hnx : s.data.toList.drop k = [] := drop_nW s k (by have := HSN.out; omega)
        have HNX := Lib.hid hnx
        clear hnx
        rcases own_cases HWO.out.2 with ⟨hv, hO0⟩ | ⟨g, cap, hv, hcv⟩
        · rw [hv]
          have hcv := conv_nil wr
          have HE : Hid (R = some ((⟨#[]⟩ : ByteArray).data.toList, s.data.toList.drop k)) := Lib.hid (by
            have := HRK.out
            rw [hO0] at this
            rw [HNX.out, sc_nil] at this; rw [HNX.out]; exact this.symm)
          clear hO0 hv
          go_wp2
          simp only [jumpsE]
          go_ret3
          exact ⟨scA_some HE.out (by have := HSN.out; omega), HWO.out.1⟩
        · obtain ⟨q, hq⟩ : ∃ q : ByteArray, ⟨O.toArray⟩ = q := ⟨_, rfl⟩
          rw [hq] at hcv
          rw [HON.out] at hv hcv
          rw [hv]
          have HE : Hid (R = some (q.data.toList, s.data.toList.drop k)) := Lib.hid (by
            have := HRK.out
            rw [← hq]
            rw [HNX.out, sc_nil] at this; rw [HNX.out]; exact this.symm)
          clear hq hv
          go_wp2
          simp only [jumpsE]
          go_ret3
          exact ⟨scA_some HE.out (by have := HSN.out; omega), HWO.out.1⟩
end Go.Proofs.YtfafoognjodeiaaDoor
