/- EmiFit2, ShelfK, EmiWrt, EmiWr2 -/
import Derived.Shelf.Lay
import Derived.Shelf.Strings.BuilderK
import Derived.Test.YtmdgpejedbkkdaaGreatDoorAT22
import Derived.Test.YtmdgpejedbkkdaaGreatDoorProg
set_option linter.unusedVariables false
set_option linter.unusedSimpArgs false
set_option maxRecDepth 100000
set_option maxHeartbeats 16000000
open Go.Lib (hid)
namespace Go.Proofs.YtmdgpejedbkkdaaGreatDoor
section
open Go.RowKit Go.Sort
open Nw N8 Q6 F9 B10 E11
theorem fitsContains_any (N : Nat) (ih : FitsOf N) (k : Int) (t : L8) (ks : List L8) (ds : List Nd) (hN : cntL ds ≤ N) (hf : ∀ d ∈ ds, N8.Fine d) (nest m m' : Int) (r n0 bn bp : Nat) (c0 c1 c2 : Value) (A : Option Addr) (n cap : Nat) (w : World) (hn : ds.length = n) (hcap : n ≤ cap) (hcapm : cap ≤ maxLen) (hdp : (depL ds : Int) + 1 ≤ nest) (hne : nest ≤ 1000) (hcm : (cntL ds : Int) ≤ m) (hm : m ≤ 100000) (hm' : m' = m - cntL ds) (hr : n0 ≤ r) (hrn : bn ≠ r) (hrp : bp ≠ r)
  (hd : NdC (· < n0) w (.mk k t ks ds) c0 c1 c2 (.slice A n cap)) (hrm : Rm11 r m w) (hbn : w.heap[bn]? = some (.cells #[.int .i64 nest] 3 (0, 0))) (hbp : w.heap[bp]? = some (.cells #[.pointer (some ⟨r, 0, none⟩)] 81 (0, 0))) :
  Calls Tryz.prog 79 #[.slice A n cap, .func (.func 80) #[] #[.pointer (some ⟨bn, 0, none⟩), .pointer (some ⟨bp, 0, none⟩)]] w fun e w' => e = .returned (.bool false) ∧ Rm11 r m' w' ∧ But r w w' := by
 have HI := hid (fitsIndex_any N ih k t ks ds hN hf nest m m' r n0 bn bp c0 c1 c2 A n cap w hn hcap hcapm hdp hne hcm hm hm' hr hrn hrp hd hrm hbn hbp)
 clear hn hcap hcapm hdp hne hcm hm hm' hr hrn hrp hd hrm hbn hbp hN hf ih
 go_enter Tryz.func79, Tryz.ntmps79
 go_wp2_with fail
 refine HI.out.mono ?_
 rintro e w2 ⟨rfl, hr2, hb2⟩
 have HR := hid (And.intro hr2 hb2)
 clear hr2 hb2
 go_wp2
 go_ret
 exact ⟨by first | rfl | simp, HR.out.1, HR.out.2⟩
theorem fit_boxes {w : World} {c0 c1 c2 c3 v x : Value} : ∃ W, ((w.alloc (.cells #[c0, c1, c2, c3] 25)).alloc (.cells #[v] 3)).alloc (.cells #[x] 81) = W ∧ Below w.heap.size w W ∧ Row4 W w.heap.size 25 c0 c1 c2 c3 ∧ W.heap[w.heap.size + 1]? = some (.cells #[v] 3 (0, 0)) ∧ W.heap[w.heap.size + 2]? = some (.cells #[x] 81 (0, 0)) := by
 have h1 := below_alloc w (.cells #[c0, c1, c2, c3] 25)
 have h2 := below_alloc (w.alloc (.cells #[c0, c1, c2, c3] 25)) (.cells #[v] 3)
 have h3 := below_alloc ((w.alloc (.cells #[c0, c1, c2, c3] 25)).alloc (.cells #[v] 3)) (.cells #[x] 81)
 have n2 := World.alloc_heap_new (w.alloc (.cells #[c0, c1, c2, c3] 25)) (.cells #[v] 3)
 have n3 := World.alloc_heap_new ((w.alloc (.cells #[c0, c1, c2, c3] 25)).alloc (.cells #[v] 3)) (.cells #[x] 81)
 rw [World.size_alloc] at n2
 rw [World.size_alloc, World.size_alloc] at n3
 exact ⟨_, rfl, h1.trans ((h2.mono h1.size).trans (h3.mono (Nat.le_trans h1.size h2.size))), below_heap h3 (below_heap h2 (Row4.make w _ _ _ _ _)), below_heap h3 n2, n3⟩
theorem fits_any : ∀ N : Nat, FitsOf N
 | 0 => by intro d hc; have := cntT_pos d; omega
 | N + 1 => by
  have ih := fits_any N
  intro d hc hf nest m m' r n0 c0 c1 c2 c3 w hdp hne hcm hm hm' hr hd hrm
  obtain ⟨k1, s1, a1, n1, q1, A1, p1, r1, rfl, rfl, rfl, rfl⟩ := hd.cellsOk
  obtain ⟨k, t, ks, ds⟩ := d
  obtain ⟨⟨h0, h3⟩, -, -, -, hfd⟩ := fine_in hf
  have hlr := lt_of_heap hrm
  obtain ⟨hkk, hkl, hdl, hcap, hcapm⟩ : k1 = k ∧ n1 = ks.length ∧ p1 = ds.length ∧ p1 ≤ r1 ∧ r1 ≤ maxLen := by
   have h := hd
   rw [NdC] at h
   obtain ⟨h0, -, ⟨a, c, h4, -⟩, A, cap, h5, h6, h7, -⟩ := h
   injection h0 with _ h0
   injection h4 with _ h4 _
   injection h5 with _ h5 h8
   subst h8
   exact ⟨h0, h4, h5, by rw [h5]; exact h6, h7⟩
  subst hkk
  rw [cntT] at hc hcm hm'
  rw [depT] at hdp
  obtain ⟨W1, hW1, hb1, r4, e1, e2⟩ := fit_boxes (w := w) (c0 := .int .i64 k1) (c1 := .string s1) (c2 := .slice a1 n1 q1) (c3 := .slice A1 p1 r1) (v := .int .i64 nest) (x := .pointer (some ⟨r, 0, none⟩))
  obtain ⟨mm, hmm⟩ : ∃ mm, m - 1 = mm := ⟨_, rfl⟩
  have hw : IntKind.i64.wrap (m - 1) = mm := by rw [hmm]; exact wrap_small _ (by omega) (by omega)
  have hrm1 : Rm11 r m W1 := hrm.on hb1
  have b0 := But.set r W1 (.int .i64 mm)
  have hrm2 : Rm11 r mm (W1.setCell ⟨r, 0, none⟩ (.int .i64 mm)) := Go.Boxed.set _ hrm1
  have r42 := b0.heap r4 (by omega)
  have e12 := b0.heap e1 (by omega)
  have e22 := b0.heap e2 (by omega)
  have hbut : But r w (W1.setCell ⟨r, 0, none⟩ (.int .i64 mm)) := (But.of hb1).trans b0
  have hn0w : n0 ≤ w.heap.size := by omega
  have hd2 : NdC (· < n0) (W1.setCell ⟨r, 0, none⟩ (.int .i64 mm)) (.mk k1 t ks ds) (.int .i64 k1) (.string s1) (.slice a1 n1 q1) (.slice A1 p1 r1) := NdC.keep (fun b h => ⟨h, (hbut.below hr hn0w).block b h⟩) _ hd
  have HCF := hid (fitsContains_any N ih k1 t ks ds (by omega) hfd nest mm m' r n0 (w.heap.size + 1) (w.heap.size + 2) (.int .i64 k1) (.string s1) (.slice a1 n1 q1) A1 p1 r1 _ hdl.symm hcap hcapm (by omega) hne (by omega) (by omega) (by omega) hr (by omega) (by omega) hd2 hrm2 e12 e22)
  obtain ⟨x0, x1, x2, x3⟩ := (show Row4 _ w.heap.size 25 (.int .i64 k1) (.string s1) (.slice a1 n1 q1) (.slice A1 p1 r1) from r42).cells
  have y1 := cell_box e12
  have y2 := cell_box e22
  have y3 := cell_box hrm2
  have z2 := cell_box e2
  have z3 := cell_box hrm1
  have f3 := frozen_box hrm1
  have HBUT := hid hbut
  have g1 : (nest == 0) = false := beq_eq_false_iff_ne.2 (by omega)
  have g2 : decide (mm < 0) = false := decide_eq_false (by omega)
  have hkeys : k1 = 3 → n1 = p1 := fun e => by subst e; rw [hkl, hdl]; exact fine_keys hf
  have hk4 : k1 = 3 ∨ ¬ k1 = 3 := by omega
  clear hd hf hd2 hrm hrm1 hrm2 r4 r42 e1 e2 e12 e22 b0 hbut hb1 hmm hc hcm hm' hdp hne hm hr hlr hfd ih h0 h3 hkl hdl hcap hcapm hn0w
  rcases hk4 with rfl | hk3
  ·obtain rfl := hkeys rfl
   have g3 : ((n1 : Int) != (n1 : Int)) = false := by simp
   clear hkeys
   go_enter Tryz.func54, Tryz.ntmps54
   go_wp2_with fail
   refine HCF.out.mono ?_
   rintro e w2 ⟨rfl, hr2, hb2⟩
   have HR := hid (And.intro hr2 (HBUT.out.trans hb2))
   clear hr2 hb2 x0 x1 x2 x3 y1 y2 y3
   go_wp2
   go_ret
   exact ⟨rfl, HR.out.1, HR.out.2⟩
  ·have g3 : (k1 == 3) = false := beq_eq_false_iff_ne.2 hk3
   clear hkeys
   go_enter Tryz.func54, Tryz.ntmps54
   go_wp2_with fail
   refine HCF.out.mono ?_
   rintro e w2 ⟨rfl, hr2, hb2⟩
   have HR := hid (And.intro hr2 (HBUT.out.trans hb2))
   clear hr2 hb2 x0 x1 x2 x3 y1 y2 y3
   go_wp2
   go_ret
   exact ⟨rfl, HR.out.1, HR.out.2⟩
end
end Go.Proofs.YtmdgpejedbkkdaaGreatDoor
namespace Go.Proofs
open Go.Shelf Go.RowKit
def Tryz.lays167k_ren : Go.Shelf.Ren := ⟨fun | 167 => 19 | 240 => 39 | 276 => 60 | n => n, fun | 0 => 0 | 4 => 4 | 5 => 5 | 9 => 9 | 20 => 20 | 37 => 40 | 70 => 39 | 72 => 42 | 75 => 47 | 80 => 51 | 164 => 82 | n => n, fun | n => n⟩
theorem Tryz.lays167k : Go.Proofs.Lays.n167 Tryz.prog Tryz.lays167k_ren := {
 mixed := by kernel_rfl
 f167 := Tryz.func19.trans (congrArg some (by kernel_rfl))
 f240 := Tryz.func39.trans (congrArg some (by kernel_rfl))
 f276 := Tryz.func60.trans (congrArg some (by kernel_rfl))
 t0 := Tryz.underlying0
 a0 := Tryz.isAgg0
 z0 := Tryz.sizeOf0
 v0 := Tryz.zeroValue0
 t4 := Tryz.underlying4
 a4 := Tryz.isAgg4
 z4 := Tryz.sizeOf4
 v4 := Tryz.zeroValue4
 t5 := Tryz.underlying5
 a5 := Tryz.isAgg5
 z5 := Tryz.sizeOf5
 v5 := Tryz.zeroValue5
 t9 := Tryz.underlying9
 a9 := Tryz.isAgg9
 z9 := Tryz.sizeOf9
 v9 := Tryz.zeroValue9
 t20 := Tryz.underlying20
 a20 := Tryz.isAgg20
 z20 := Tryz.sizeOf20
 v20 := Tryz.zeroValue20
 t37 := Tryz.underlying40
 a37 := Tryz.isAgg40
 z37 := Tryz.sizeOf40
 v37 := Tryz.zeroValue40
 t70 := Tryz.underlying39
 a70 := Tryz.isAgg39
 z70 := Tryz.sizeOf39
 v70 := Tryz.zeroValue39
 t72 := Tryz.underlying42
 a72 := Tryz.isAgg42
 z72 := Tryz.sizeOf42
 v72 := Tryz.zeroValue42
 t75 := Tryz.underlying47
 a75 := Tryz.isAgg47
 z75 := Tryz.sizeOf47
 v75 := Tryz.zeroValue47
 t164 := Tryz.underlying82
 a164 := Tryz.isAgg82
 z164 := Tryz.sizeOf82
 v164 := Tryz.zeroValue82 }
def Tryz.lays166k_ren : Go.Shelf.Ren := ⟨fun | 166 => 18 | 240 => 39 | 276 => 60 | n => n, fun | 0 => 0 | 3 => 3 | 4 => 4 | 5 => 5 | 9 => 9 | 20 => 20 | 37 => 40 | 70 => 39 | 72 => 42 | 75 => 47 | 80 => 51 | 164 => 82 | n => n, fun | n => n⟩
theorem Tryz.lays166k : Go.Proofs.Lays.n166 Tryz.prog Tryz.lays166k_ren := {
 mixed := by kernel_rfl
 f166 := Tryz.func18.trans (congrArg some (by kernel_rfl))
 f240 := Tryz.func39.trans (congrArg some (by kernel_rfl))
 f276 := Tryz.func60.trans (congrArg some (by kernel_rfl))
 t0 := Tryz.underlying0
 a0 := Tryz.isAgg0
 z0 := Tryz.sizeOf0
 v0 := Tryz.zeroValue0
 t3 := Tryz.underlying3
 a3 := Tryz.isAgg3
 z3 := Tryz.sizeOf3
 v3 := Tryz.zeroValue3
 t4 := Tryz.underlying4
 a4 := Tryz.isAgg4
 z4 := Tryz.sizeOf4
 v4 := Tryz.zeroValue4
 t9 := Tryz.underlying9
 a9 := Tryz.isAgg9
 z9 := Tryz.sizeOf9
 v9 := Tryz.zeroValue9
 t20 := Tryz.underlying20
 a20 := Tryz.isAgg20
 z20 := Tryz.sizeOf20
 v20 := Tryz.zeroValue20
 t37 := Tryz.underlying40
 a37 := Tryz.isAgg40
 z37 := Tryz.sizeOf40
 v37 := Tryz.zeroValue40
 t70 := Tryz.underlying39
 a70 := Tryz.isAgg39
 z70 := Tryz.sizeOf39
 v70 := Tryz.zeroValue39
 t72 := Tryz.underlying42
 a72 := Tryz.isAgg42
 z72 := Tryz.sizeOf42
 v72 := Tryz.zeroValue42
 t75 := Tryz.underlying47
 a75 := Tryz.isAgg47
 z75 := Tryz.sizeOf47
 v75 := Tryz.zeroValue47
 t164 := Tryz.underlying82
 a164 := Tryz.isAgg82
 z164 := Tryz.sizeOf82
 v164 := Tryz.zeroValue82 }
def Tryz.lays169k_ren : Go.Shelf.Ren := ⟨fun | 169 => 20 | n => n, fun | 0 => 0 | 3 => 3 | 5 => 5 | 9 => 9 | 37 => 40 | 70 => 39 | 72 => 42 | 127 => 66 | n => n, fun | n => n⟩
theorem Tryz.lays169k : Go.Proofs.Lays.n169 Tryz.prog Tryz.lays169k_ren := {
 mixed := by kernel_rfl
 f169 := Tryz.func20.trans (congrArg some (by kernel_rfl))
 t0 := Tryz.underlying0
 a0 := Tryz.isAgg0
 z0 := Tryz.sizeOf0
 v0 := Tryz.zeroValue0
 t3 := Tryz.underlying3
 a3 := Tryz.isAgg3
 z3 := Tryz.sizeOf3
 v3 := Tryz.zeroValue3
 t9 := Tryz.underlying9
 a9 := Tryz.isAgg9
 z9 := Tryz.sizeOf9
 v9 := Tryz.zeroValue9
 t37 := Tryz.underlying40
 a37 := Tryz.isAgg40
 z37 := Tryz.sizeOf40
 v37 := Tryz.zeroValue40
 t70 := Tryz.underlying39
 a70 := Tryz.isAgg39
 z70 := Tryz.sizeOf39
 v70 := Tryz.zeroValue39
 t72 := Tryz.underlying42
 a72 := Tryz.isAgg42
 z72 := Tryz.sizeOf42
 v72 := Tryz.zeroValue42
 t127 := Tryz.underlying66
 a127 := Tryz.isAgg66
 z127 := Tryz.sizeOf66
 v127 := Tryz.zeroValue66 }
theorem Tryz.Builder_Extra167k : Builder.Extra Tryz.prog Tryz.lays167k_ren := {
 sizeBuilder := by kernel_rfl
 liesBuilder := by kernel_rfl
 t5 := Tryz.underlying5
 a5 := Tryz.isAgg5
 z5 := Tryz.sizeOf5
 v5 := Tryz.zeroValue5
 infoByte := by kernel_rfl
 cellsByte := by kernel_rfl
 sizeByte := by kernel_rfl
 neB5 := by decide }
theorem Tryz.Builder_Extra166k : Builder.Extra Tryz.prog Tryz.lays166k_ren := {
 sizeBuilder := by kernel_rfl
 liesBuilder := by kernel_rfl
 t5 := Tryz.underlying5
 a5 := Tryz.isAgg5
 z5 := Tryz.sizeOf5
 v5 := Tryz.zeroValue5
 infoByte := by kernel_rfl
 cellsByte := by kernel_rfl
 sizeByte := by kernel_rfl
 neB5 := by decide }
theorem Tryz.Builder_Extra169k : Builder.Extra Tryz.prog Tryz.lays169k_ren := {
 sizeBuilder := by kernel_rfl
 liesBuilder := by kernel_rfl
 t5 := Tryz.underlying5
 a5 := Tryz.isAgg5
 z5 := Tryz.sizeOf5
 v5 := Tryz.zeroValue5
 infoByte := by kernel_rfl
 cellsByte := by kernel_rfl
 sizeByte := by kernel_rfl
 neB5 := by decide }
theorem Tryz.Builder_WriteByte_k (B b : Nat) (bs : List Value) (c : Int) (w : World) (h : Lib.IsBuilderF 42 5 B b bs w) (hlen : bs.length + 1 ≤ 140737488355328) (hBw : B ≤ w.heap.size) :
  Calls Tryz.prog 19 #[.pointer (some ⟨b, 0, none⟩), .int .u8 c] w fun e w' => e = .returned .nilIface ∧ (Lib.BuilderAtF 42 5 B b (.pointer (some ⟨b, 0, none⟩)) (bs ++ [.int .u8 c]) w' ∧ Below B w w' ∧ Lib.OthersKept 5 (some b) w w') := Any.Builder_WriteByte_k Tryz.lays167k Tryz.Builder_Extra167k B b bs c w h hlen hBw
theorem Tryz.Builder_WriteString_k (B b : Nat) (bs : List Value) (s : ByteArray) (w : World) (h : Lib.IsBuilderF 42 5 B b bs w) (hlen : bs.length + s.size ≤ 140737488355328) (hBw : B ≤ w.heap.size) :
  Calls Tryz.prog 18 #[.pointer (some ⟨b, 0, none⟩), .string s] w fun e w' => e = .returned (.tuple #[.int .i64 s.size, .nilIface]) ∧ (Lib.BuilderAtF 42 5 B b (.pointer (some ⟨b, 0, none⟩)) (bs ++ Lib.strCells s) w' ∧ Below B w w' ∧ Lib.OthersKept 5 (some b) w w') := Any.Builder_WriteString_k Tryz.lays166k Tryz.Builder_Extra166k B b bs s w h hlen hBw
theorem Tryz.Builder_String_any_k (B b : Nat) (l : List UInt8) (w : World) (h : Lib.IsBuilderF 42 5 B b (Lib.byteCells l) w) (hBw : B ≤ w.heap.size) :
  Calls Tryz.prog 20 #[.pointer (some ⟨b, 0, none⟩)] w fun e w' => e = .returned (.string ⟨l.toArray⟩) ∧ (Lib.IsBuilderF 42 5 B b (Lib.byteCells l) w' ∧ Below B w w' ∧ Lib.OthersKept 5 (some b) w w') := Any.Builder_String_any_k Tryz.lays169k Tryz.Builder_Extra169k B b l w h hBw
end Go.Proofs
namespace Go.Proofs.YtmdgpejedbkkdaaGreatDoor
section
open Go.RowKit Go.Sort
open Nw N8 Q6 F9 B10 E11
attribute [local go_sem] Oper.semAt_some
theorem isWritable_any (d : Nd) (hf : N8.Fine d) (hc : cntT d ≤ 2000) (hdp : depT d ≤ 12) (c0 c1 c2 c3 : Value) (w : World) (hd : NdW w d c0 c1 c2 c3) :
  Calls Tryz.prog 34 #[.agg #[c0, c1, c2, c3]] w fun e w' => e = .returned (.bool true) ∧ Below w.heap.size w w' := by
 obtain ⟨k1, s1, a1, n1, q1, A1, p1, r1, rfl, rfl, rfl, rfl⟩ := nd_shape hd
 have h1 := below_alloc w (.cells #[.int .i64 k1, .string s1, .slice a1 n1 q1, .slice A1 p1 r1] 25)
 have h2 := below_alloc (w.alloc (.cells #[.int .i64 k1, .string s1, .slice a1 n1 q1, .slice A1 p1 r1] 25)) (.cells #[.int .i64 2000] 3)
 have h12 := h1.trans (h2.mono h1.size)
 have hrm : Rm11 (w.heap.size + 1) 2000 ((w.alloc (.cells #[.int .i64 k1, .string s1, .slice a1 n1 q1, .slice A1 p1 r1] 25)).alloc (.cells #[.int .i64 2000] 3)) := by
  have := World.alloc_heap_new (w.alloc (.cells #[.int .i64 k1, .string s1, .slice a1 n1 q1, .slice A1 p1 r1] 25)) (.cells #[.int .i64 2000] 3)
  rwa [World.size_alloc] at this
 have HF := hid (fits_any 2000 d hc hf 12 2000 (2000 - (cntT d : Nat)) (w.heap.size + 1) w.heap.size (.int .i64 k1) (.string s1) (.slice a1 n1 q1) (.slice A1 p1 r1) _ (by omega) (by omega) (by omega) (by omega) rfl (by omega) (NdC.keep (fun b h => ⟨h, h12.block b h⟩) _ hd) hrm)
 have H12 := hid h12
 obtain ⟨x0, x1, x2, x3⟩ := (show Row4 _ w.heap.size 25 (.int .i64 k1) (.string s1) (.slice a1 n1 q1) (.slice A1 p1 r1) from below_heap h2 (Row4.make w _ _ _ _ _)).cells
 clear hd h1 h2 h12 hrm hc hdp hf
 go_enter Tryz.func34, Tryz.ntmps34
 go_wp2_with fail
 refine HF.out.mono ?_
 rintro e w2 ⟨rfl, -, hb2⟩
 have HR := hid (H12.out.trans (hb2.below (n := w.heap.size) (by omega) H12.out.size))
 clear hb2 x0 x1 x2 x3
 go_wp2
 go_ret
 exact ⟨rfl, HR.out⟩
theorem fileLines_any (d : Nd) (hf : N8.Fine d) (hc : cntT d ≤ 2000) (hdp : depT d ≤ 12) (ha : allT 1000000 d) (hlim : Lim (lnT d)) (n0 : Nat) (c0 c1 c2 c3 : Value) (w : World) (hn : n0 ≤ w.heap.size) (hd : NdC (· < n0) w d c0 c1 c2 c3) :
  Calls Tryz.prog 17 #[.agg #[c0, c1, c2, c3]] w fun e w' => ∃ v, e = .returned v ∧ Below w.heap.size w w' ∧ Seqs Tryz.prog T8 n0 w.heap.size v (flL d) w' := by
 obtain ⟨k1, s1, a1, n1, q1, A1, m1, r1, rfl, rfl, rfl, rfl⟩ := hd.cellsOk
 obtain ⟨hk1, hs1⟩ : d.kind = k1 ∧ s1.data.toList = d.text := by
  obtain ⟨k, t, ks, ds⟩ := d
  rw [NdC] at hd
  obtain ⟨h0, h1, -⟩ := hd
  injection h0 with _ h0
  injection h1 with h1
  exact ⟨h0.symm, by rw [h1, ba_data]; rfl⟩
 have HK := hid (NK.start hn hd)
 have HW := hid (fun W hW => isWritable_any d hf hc hdp (.int .i64 k1) (.string s1) (.slice a1 n1 q1) (.slice A1 m1 r1) W hW)
 have HM := hid (fun b hb W hW => isMarker_any d b hb (.int .i64 k1) (.string s1) (.slice a1 n1 q1) (.slice A1 m1 r1) W hW)
 have HI := hid (fun W hW hN => inner_any 2000 (by omega) d hc hf ha hlim n0 (.int .i64 k1) (.string s1) (.slice a1 n1 q1) (.slice A1 m1 r1) W hW hN)
 have htx := text_all ha
 obtain ⟨x0, x1, x2, x3⟩ := HK.out.2.1.cells
 unfold flL
 by_cases h0 : d.kind = 0
 ·rw [if_pos h0]
  rw [hk1] at h0
  subst h0
  clear hd hf hc hdp ha hlim HM HI hs1 htx hk1
  go_enter Tryz.func17, Tryz.ntmps17
  go_wp2_with fail
  generalize w.alloc (.cells #[.int .i64 0, .string s1, .slice a1 n1 q1, .slice A1 m1 r1] 25) = W1 at *
  refine (HW.out _ (HK.out.nd hn)).mono ?_
  rintro e W2 ⟨rfl, hb2⟩
  have HK2 := hid (HK.out.go hn hb2)
  clear x0 x1 x2 x3 hb2
  obtain ⟨x0, x1, x2, x3⟩ := HK2.out.2.1.cells
  go_wp2
  go_ret
  exact ⟨_, rfl, HK2.out.1, _, _, rfl, enters_of Tryz.func35 (by kernel_rfl) rfl, none_iter n0 w.heap.size W2⟩
 ·rw [if_neg h0]
  have g0 : (k1 == 0) = false := beq_eq_false_iff_ne.2 (by rw [← hk1]; exact h0)
  by_cases h1 : d.kind = 1 ∧ marker d.text = true
  ·rw [if_pos h1]
   have HM1 := hid (fun W hW => HM.out true (by rw [decide_eq_true h1.1, h1.2]; rfl) W hW)
   obtain ⟨Z, hZ⟩ : ∃ Z, ba (dblL d.text) = Z := ⟨_, rfl⟩
   have hZl : Z.data.toList = dblL d.text := by rw [← hZ, ba_data]
   have HD := hid (fun W => Double_any s1 W (by rw [← len_eq, hs1]; exact htx) Z (by rw [hs1, hZl]))
   have HO := hid (fun W => oneLine_any n0 Z W)
   rw [← hZl]
   clear hd hf hc hdp ha hlim HM HI hs1 htx hk1 h0 h1 hZ hZl
   go_enter Tryz.func17, Tryz.ntmps17
   go_wp2_with fail
   generalize w.alloc (.cells #[.int .i64 k1, .string s1, .slice a1 n1 q1, .slice A1 m1 r1] 25) = W1 at *
   refine (HW.out _ (HK.out.nd hn)).mono ?_
   rintro e W2 ⟨rfl, hb2⟩
   have HK2 := hid (HK.out.go hn hb2)
   clear x0 x1 x2 x3 hb2
   obtain ⟨x0, x1, x2, x3⟩ := HK2.out.2.1.cells
   go_wp2_with fail
   refine (HM1.out _ (HK2.out.nd hn)).mono ?_
   rintro e W3 ⟨rfl, hb3⟩
   have HK3 := hid (HK2.out.go hn hb3)
   clear x0 x1 x2 x3 hb3
   obtain ⟨x0, x1, x2, x3⟩ := HK3.out.2.1.cells
   go_wp2_with fail
   refine (HD.out _).mono ?_
   rintro e W4 ⟨rfl, hb4⟩
   have HK4 := hid (HK3.out.go hn hb4)
   clear x0 x1 x2 x3 hb4
   go_wp2_with fail
   refine (HO.out _).mono ?_
   rintro e W5 ⟨v, rfl, hb5, hseq⟩
   have HR := hid (And.intro (HK4.out.go hn hb5).1 (hseq.lower HK4.out.1.size))
   clear hb5 hseq
   go_wp2
   go_ret
   exact ⟨_, rfl, HR.out.1, HR.out.2⟩
  ·rw [if_neg h1]
   have HM1 := hid (fun W hW => HM.out false (by
    rw [Bool.and_eq_false_iff]
    by_cases e : d.kind = 1
    ·exact .inr (Bool.eq_false_iff.2 fun e2 => h1 ⟨e, e2⟩)
    ·exact .inl (decide_eq_false e)) W hW)
   clear hd hf hc hdp ha hlim HM hs1 htx hk1 h0 h1
   go_enter Tryz.func17, Tryz.ntmps17
   go_wp2_with fail
   generalize w.alloc (.cells #[.int .i64 k1, .string s1, .slice a1 n1 q1, .slice A1 m1 r1] 25) = W1 at *
   refine (HW.out _ (HK.out.nd hn)).mono ?_
   rintro e W2 ⟨rfl, hb2⟩
   have HK2 := hid (HK.out.go hn hb2)
   clear x0 x1 x2 x3 hb2
   obtain ⟨x0, x1, x2, x3⟩ := HK2.out.2.1.cells
   go_wp2_with fail
   refine (HM1.out _ (HK2.out.nd hn)).mono ?_
   rintro e W3 ⟨rfl, hb3⟩
   have HK3 := hid (HK2.out.go hn hb3)
   clear x0 x1 x2 x3 hb3
   obtain ⟨x0, x1, x2, x3⟩ := HK3.out.2.1.cells
   go_wp2_with fail
   refine (HI.out _ (Nat.le_trans hn HK3.out.1.size) HK3.out.2.2).mono ?_
   rintro e W4 ⟨v, rfl, hb4, hseq⟩
   have HR := hid (And.intro (HK3.out.go hn hb4).1 (hseq.lower HK3.out.1.size))
   clear x0 x1 x2 x3 hb4 hseq
   go_wp2
   go_ret
   exact ⟨_, rfl, HR.out.1, HR.out.2⟩
theorem builder_turned {T : TypeId} {B b B' : Nat} {bs : List Value} {W W' : World} (h : Lib.IsBuilderF T T8 B b bs W) (hT : Turned T8 B' W W') (hb : b < B') : Lib.IsBuilderF T T8 B b bs W' := by
 have one : ∀ p, Lib.BuilderAtF T T8 B b p bs W → Lib.BuilderAtF T T8 B b p bs W' := by
  rintro p ⟨hB, v, hbk, ⟨hl, hown⟩, hne⟩
  refine ⟨hB, v, hT.same _ _ hbk (.inl hb), ⟨hl, ?_⟩, hne⟩
  rcases hown with h0 | ⟨g, cap, cur, fz, h1, h2, h3, h4⟩
  ·exact .inl h0
  ·exact .inr ⟨g, cap, cur, fz, h1, h2, hT.same _ _ h3 (.inr (by simp [rowOf])), h4⟩
 exact h.elim (fun x => .inl (one _ x)) (fun x => .inr (one _ x))
theorem kept_others {n0 C b B : Nat} {W W' : World} (hb : Below B W W') (ho : Lib.OthersKept T8 (some b) W W') (hn : n0 ≤ B) (hC : b < C) : Kept T8 n0 C C W W' :=
 ⟨hb.os, hb.tape, hb.output, hb.size, fun k o hk h2 => by
  have oth : b < k → rowOf T8 o = false → W'.heap[k]? = some o := fun h hr => ho k o hk (fun e => by injection e with e; omega) (fun c fz e => by subst e; simp [rowOf] at hr)
  rcases h2 with h | ⟨h, _, hr⟩ | ⟨h, hr⟩
  ·exact below_same hb (by omega) hk
  ·exact oth (by omega) hr
  ·exact oth (by omega) hr⟩
end
section
open Go.RowKit Go.Sort
open Nw N8 Q6 F9 B10 E11
attribute [local go_sem] Oper.semAt_some
theorem cells_more (l : L8) (q : ByteArray) : Lib.byteCells l ++ Lib.strCells q ++ [Value.int .u8 10] = Lib.byteCells (l ++ (q.data.toList ++ [10])) := by
 rw [Lib.strCells_eq]; unfold Lib.byteCells; rw [List.map_append, List.map_append, List.append_assoc]; rfl
theorem used_builder {T e : TypeId} {B b : Nat} {bs : List Value} {w : World} (h : Lib.BuilderAtF T e B b (.pointer (some ⟨b, 0, none⟩)) bs w) : Lib.IsBuilderF T e B b bs w := .inr h
theorem lim_lines {d : Nd} (hf : N8.Fine d) (hl : (wrB d).length ≤ 1000000000) (h0 : d.kind ≠ 0) (h1 : ¬ (d.kind = 1 ∧ marker d.text = true)) : Lim (lnT d) := by
 rw [wrB_lines hf] at hl
 unfold flL at hl
 rw [if_neg h0, if_neg h1] at hl
 exact fun x hx => Nat.le_trans (line_le hx) hl
theorem lim_any {d : Nd} (hf : N8.Fine d) (hl : (wrB d).length ≤ 1000000000) : Lim (lnT d) := by
 by_cases h0 : d.kind = 0
 ·obtain ⟨k, t, ks, ds⟩ := d
  have h0 : k = 0 := h0
  subst h0
  rw [lnT_short (d := .mk 0 t ks ds) (by unfold shrt; rfl)]
  intro x hx
  rw [List.mem_singleton.1 hx]
  have e : scal (.mk 0 t ks ds) = [110, 117, 108, 108] := by
   show (if (0 : Int) = 0 then ([110, 117, 108, 108] : L8) else if (0 : Int) = 1 then scw t else if (0 : Int) = 2 then [91, 93] else [123, 125]) = _
   rw [if_pos rfl]
  rw [e]
  decide
 ·by_cases h1 : d.kind = 1 ∧ marker d.text = true
  ·obtain ⟨k, t, ks, ds⟩ := d
   obtain ⟨hk, hm⟩ := h1
   have hk : k = 1 := hk
   have hm : marker t = true := hm
   subst hk
   rw [lnT_short (d := .mk 1 t ks ds) (by unfold shrt; rfl)]
   intro x hx
   rw [List.mem_singleton.1 hx]
   have e : scal (.mk 1 t ks ds) = scw t := by
    show (if (1 : Int) = 0 then ([110, 117, 108, 108] : L8) else if (1 : Int) = 1 then scw t else if (1 : Int) = 2 then [91, 93] else [123, 125]) = _
    rw [if_neg (by decide), if_pos rfl]
   rw [e]
   have := scw_len t
   have hl3 : t.length = 3 := by
    have h2 : t = [45, 45, 45] ∨ t = [46, 46, 46] := mark_text hm
    rcases h2 with rfl | rfl <;> rfl
   omega
  ·exact lim_lines hf hl h0 h1
theorem Write_any (d : Nd) (hf : N8.Fine d) (hc : cntT d ≤ 2000) (hdp : depT d ≤ 12) (ha : allT 1000000 d) (hl : (wrB d).length ≤ 1000000000) (q : ByteArray) (hq : wrB d = q.data.toList) (c0 c1 c2 c3 : Value) (w : World) (hd : NdW w d c0 c1 c2 c3) :
  Calls Tryz.prog 8 #[.agg #[c0, c1, c2, c3]] w fun e w' => e = .returned (.string q) ∧ Below w.heap.size w w' := by
 obtain ⟨k1, s1, a1, n1, q1, A1, m1, r1, rfl, rfl, rfl, rfl⟩ := nd_shape hd
 have h1 := below_alloc w (.cells #[.int .i64 k1, .string s1, .slice a1 n1 q1, .slice A1 m1 r1] 25)
 have h2 := below_alloc (w.alloc (.cells #[.int .i64 k1, .string s1, .slice a1 n1 q1, .slice A1 m1 r1] 25)) (.cells #[.pointer none, .slice none 0 0] 42)
 have h12 := h1.trans (h2.mono h1.size)
 have hbu : Lib.IsBuilderF 42 T8 (w.heap.size + 1) (w.heap.size + 1) [] ((w.alloc (.cells #[.int .i64 k1, .string s1, .slice a1 n1 q1, .slice A1 m1 r1] 25)).alloc (.cells #[.pointer none, .slice none 0 0] 42)) := by
  have := Lib.fresh_isBuilder 42 T8 (w.alloc (.cells #[.int .i64 k1, .string s1, .slice a1 n1 q1, .slice A1 m1 r1] 25))
  rw [World.size_alloc] at this
  exact Lib.IsBuilderF.of this
 have HFL := hid (fun W (hn : w.heap.size ≤ W.heap.size) h => fileLines_any d hf hc hdp ha (lim_any hf hl) w.heap.size (.int .i64 k1) (.string s1) (.slice a1 n1 q1) (.slice A1 m1 r1) W hn h)
 have HND := hid (NdC.keep (T := (· < w.heap.size)) (fun b h => ⟨h, h12.block b h⟩) _ hd)
 have H12 := hid h12
 have HBU := hid hbu
 have HSZ : Hid (((w.alloc (.cells #[.int .i64 k1, .string s1, .slice a1 n1 q1, .slice A1 m1 r1] 25)).alloc (.cells #[.pointer none, .slice none 0 0] 42)).heap.size = w.heap.size + 2) := hid (by simp)
 have hwl : withLf (flL d) = q.data.toList := by rw [← wrB_lines hf, hq]
 have HWL := hid hwl
 have HLEN : Hid ((withLf (flL d)).length ≤ 1000000000) := hid (by rw [hwl, ← hq]; exact hl)
 obtain ⟨x0, x1, x2, x3⟩ := (show Row4 _ w.heap.size 25 (.int .i64 k1) (.string s1) (.slice a1 n1 q1) (.slice A1 m1 r1) from below_heap h2 (Row4.make w _ _ _ _ _)).cells
 clear hd h1 h2 h12 hbu hc hdp hf ha hl hq hwl
 refine (callsIn_wide (n := 1)).1 ?_
 refine callsIn_of_wp_marks Tryz.func8 rfl trivial ?_ rfl
 simp only [Tryz.ntmps8, List.size_toArray, List.length_cons, List.length_nil, Nat.reduceAdd, Nat.reduceSub, Array.replicate_succ, Array.replicate_zero, List.push_toArray, List.append_toArray, List.nil_append, List.cons_append]
 gi_wp2_with fail
 generalize (w.alloc (.cells #[.int .i64 k1, .string s1, .slice a1 n1 q1, .slice A1 m1 r1] 25)).alloc (.cells #[.pointer none, .slice none 0 0] 42) = W1 at *
 refine ⟨trivial, callsIn_wide.2 ((HFL.out W1 H12.out.size HND.out).mono ?_)⟩
 rintro e W2 ⟨v, rfl, hb2, gf, lb, rfl, eg, hit⟩
 have hsz2 := hb2.size
 have hlt : w.heap.size + 1 < W1.heap.size := by have := HSZ.out; omega
 have HB2 := hid (builder_turned HBU.out (.of_below hb2) hlt)
 have HL2 := hid (H12.out.trans (hb2.mono H12.out.size))
 clear x0 x1 x2 x3 hb2 HBU
 gi_wp2
 refine wpIn_lines (n0 := w.heap.size) (C := W1.heap.size) (xs := flL d) rfl eg rfl hit HL2.out.size hsz2
  (fun pre X => Lib.IsBuilderF 42 T8 (w.heap.size + 1) (w.heap.size + 1) (Lib.byteCells (withLf pre)) X ∧ Below w.heap.size w X ∧ W1.heap.size ≤ X.heap.size)
  (fun s X X' h hT => ⟨builder_turned h.1 hT (by omega), h.2.1.trans (hT.below (by omega) h.2.1.size), Nat.le_trans h.2.2 hT.size⟩)
  ⟨HB2.out, HL2.out, hsz2⟩ ?a1 ?assign ?body ?done
 case assign =>
  intro l x V K hK
  gi_wp2
  exact hK
 case body =>
  rintro l2 pre x X hpre ⟨hbu, hbl, hle⟩
  obtain ⟨z, hz⟩ : ∃ z : ByteArray, z.data.toList = x := ⟨ba x, ba_data x⟩
  have e1 := enc_q hz
  have hlen := Nat.le_trans (withLf_pre hpre) HLEN.out
  rw [withLf_snoc, List.length_append, List.length_append, ← hz, len_eq] at hlen
  have HS := hid (Tryz.Builder_WriteString_k (w.heap.size + 1) (w.heap.size + 1) (Lib.byteCells (withLf pre)) z X hbu (by rw [Lib.byteCells_length]; omega) (by omega))
  have HR : Hid (withLf (pre ++ [x]) = withLf pre ++ (z.data.toList ++ [10])) := hid (by rw [withLf_snoc, hz])
  have HBL := hid hbl
  have HLE := hid hle
  have HLN : Hid ((withLf pre).length + z.size + 1 ≤ 1000000000) := hid (by
   have : ([10] : L8).length = 1 := rfl
   omega)
  clear hbu hbl hpre hz hlen hle
  simp only [e1]
  gi_wp2_with fail
  refine ⟨trivial, CallsIn.inRound l2 (callsIn_wide.2 (HS.out.mono ?_))⟩
  rintro e X2 ⟨rfl, hbu2, hb2, ho2⟩
  have hs2 := hb2.size
  have HS2 := hid (Tryz.Builder_WriteByte_k (w.heap.size + 1) (w.heap.size + 1) _ 10 X2 (used_builder hbu2) (by
   have := HLN.out
   rw [List.length_append, Lib.byteCells_length, Lib.strCells_length]; omega) (by have := HLE.out; omega))
  have HK2 := hid (kept_others (n0 := w.heap.size) (C := W1.heap.size) hb2 ho2 (Nat.le_succ _) hlt)
  clear hbu2 hb2 ho2 HS
  gi_wp2_with fail
  refine ⟨trivial, CallsIn.inRound l2 (callsIn_wide.2 (HS2.out.mono ?_))⟩
  rintro e X3 ⟨rfl, hbu3, hb3, ho3⟩
  have HK3 := hid (HK2.out.trans (kept_others (n0 := w.heap.size) (C := W1.heap.size) hb3 ho3 (Nat.le_succ _) hlt))
  have hs3 := hb3.size
  have HB3 : Hid (Lib.IsBuilderF 42 T8 (w.heap.size + 1) (w.heap.size + 1) (Lib.byteCells (withLf (pre ++ [x]))) X3) := hid (by
   rw [HR.out, ← cells_more]; exact used_builder hbu3)
  clear hbu3 hb3 ho3 HS2 HK2
  gi_wp2
  exact ⟨⟨HB3.out, HBL.out.trans (HK3.out.below (by have := HBL.out.size; omega)), by have := HLE.out; omega⟩, HK3.out⟩
 case done =>
  rintro D X hD ⟨hbu, hbl, hle⟩ hm
  have HS := hid (Tryz.Builder_String_any_k (w.heap.size + 1) (w.heap.size + 1) (withLf (flL d)) X hbu (by omega))
  have HBL := hid hbl
  have HM := hid hm
  clear hbu hbl hm hle
  dsimp only
  gi_wp2_with fail
  refine ⟨trivial, callsIn_wide.2 (HS.out.mono ?_)⟩
  rintro e X2 ⟨rfl, -, hb2, ho2⟩
  have hmD : X2.heap[D]? = some (.deferred (some [])) := ho2 D _ HM.out (fun e => by injection e with e; omega) (fun c fz e => by cases e)
  have HB2 := hid (HBL.out.trans (hb2.mono (Nat.le_succ _)))
  clear hb2 ho2 HS
  gi_wp2
  refine leaves_marks [D] X2 (by simp) (fun E hE => by rw [List.mem_singleton.1 hE]; exact hmD) ⟨_, results_tmp rfl _ _ _, ?_, ?_⟩
  ·show Ending.returned (.string ⟨(withLf (flL d)).toArray⟩) = _
   rw [HWL.out]
  ·exact HB2.out.trans ((shut_facts (t := T8) (B := w.heap.size) [D] X2 (fun E hE => by rw [List.mem_singleton.1 hE]; exact ⟨by have := HL2.out.size; omega, _, hmD, rfl⟩)).below (Nat.le_refl _) HB2.out.size)
theorem lines_le (l : List L8) : l.length ≤ (withLf l).length := by
 induction l with
 | nil => exact Nat.zero_le _
 | cons x l ih =>
  rw [withLf_cons, List.length_append, List.length_append]
  simp only [List.length_cons, List.length_nil]
  omega
theorem Lines_any (d : Nd) (hf : N8.Fine d) (hc : cntT d ≤ 2000) (hdp : depT d ≤ 12) (ha : allT 1000000 d) (hl : (wrB d).length ≤ 1000000000) (c0 c1 c2 c3 : Value) (w : World) (hd : NdW w d c0 c1 c2 c3) :
  Calls Tryz.prog 10 #[.agg #[c0, c1, c2, c3]] w fun e w' => e = .returned (.int .i64 (nlN (wrB d) : Int)) ∧ Below w.heap.size w w' := by
 obtain ⟨k1, s1, a1, n1, q1, A1, m1, r1, rfl, rfl, rfl, rfl⟩ := nd_shape hd
 have h1 := below_alloc w (.cells #[.int .i64 k1, .string s1, .slice a1 n1 q1, .slice A1 m1 r1] 25)
 have h2 := below_alloc (w.alloc (.cells #[.int .i64 k1, .string s1, .slice a1 n1 q1, .slice A1 m1 r1] 25)) (.cells #[.int .i64 0] 3)
 have h12 := h1.trans (h2.mono h1.size)
 have hbu : ((w.alloc (.cells #[.int .i64 k1, .string s1, .slice a1 n1 q1, .slice A1 m1 r1] 25)).alloc (.cells #[.int .i64 0] 3)).heap[w.heap.size + 1]? = some (.cells #[.int .i64 0] 3 (0, 0)) := by
  have := World.alloc_heap_new (w.alloc (.cells #[.int .i64 k1, .string s1, .slice a1 n1 q1, .slice A1 m1 r1] 25)) (.cells #[.int .i64 0] 3)
  rwa [World.size_alloc] at this
 have HFL := hid (fun W (hn : w.heap.size ≤ W.heap.size) h => fileLines_any d hf hc hdp ha (lim_any hf hl) w.heap.size (.int .i64 k1) (.string s1) (.slice a1 n1 q1) (.slice A1 m1 r1) W hn h)
 have HND := hid (NdC.keep (T := (· < w.heap.size)) (fun b h => ⟨h, h12.block b h⟩) _ hd)
 have H12 := hid h12
 have HBU := hid hbu
 have HSZ : Hid (((w.alloc (.cells #[.int .i64 k1, .string s1, .slice a1 n1 q1, .slice A1 m1 r1] 25)).alloc (.cells #[.int .i64 0] 3)).heap.size = w.heap.size + 2) := hid (by simp)
 have hcount := wrB_count hf
 have HCT := hid hcount
 have HLEN : Hid ((flL d).length ≤ 1000000000) := hid (by
  have := lines_le (flL d)
  rw [wrB_lines hf] at hl
  omega)
 obtain ⟨x0, x1, x2, x3⟩ := (show Row4 _ w.heap.size 25 (.int .i64 k1) (.string s1) (.slice a1 n1 q1) (.slice A1 m1 r1) from below_heap h2 (Row4.make w _ _ _ _ _)).cells
 clear hd h1 h2 h12 hbu hc hdp hf ha hl hcount
 refine (callsIn_wide (n := 1)).1 ?_
 refine callsIn_of_wp_marks Tryz.func10 rfl trivial ?_ rfl
 simp only [Tryz.ntmps10, List.size_toArray, List.length_cons, List.length_nil, Nat.reduceAdd, Nat.reduceSub, Array.replicate_succ, Array.replicate_zero, List.push_toArray, List.append_toArray, List.nil_append, List.cons_append]
 gi_wp2_with fail
 generalize (w.alloc (.cells #[.int .i64 k1, .string s1, .slice a1 n1 q1, .slice A1 m1 r1] 25)).alloc (.cells #[.int .i64 0] 3) = W1 at *
 refine ⟨trivial, callsIn_wide.2 ((HFL.out W1 H12.out.size HND.out).mono ?_)⟩
 rintro e W2 ⟨v, rfl, hb2, gf, lb, rfl, eg, hit⟩
 have hsz2 := hb2.size
 have hlt : w.heap.size + 1 < W1.heap.size := by have := HSZ.out; omega
 have HB2 := hid (below_heap hb2 HBU.out)
 have HL2 := hid (H12.out.trans (hb2.mono H12.out.size))
 clear x0 x1 x2 x3 hb2 HBU
 gi_wp2
 refine wpIn_lines (n0 := w.heap.size) (C := W1.heap.size) (xs := flL d) rfl eg rfl hit HL2.out.size hsz2
  (fun pre X => X.heap[w.heap.size + 1]? = some (.cells #[.int .i64 (pre.length : Int)] 3 (0, 0)) ∧ Below w.heap.size w X ∧ W1.heap.size ≤ X.heap.size)
  (fun s X X' h hT => ⟨hT.same _ _ h.1 (.inl (by omega)), h.2.1.trans (hT.below (by omega) h.2.1.size), Nat.le_trans h.2.2 hT.size⟩)
  ⟨HB2.out, HL2.out, hsz2⟩ ?a1 ?assign ?body ?done
 case assign =>
  intro l x V K hK
  gi_wp2
  exact hK
 case body =>
  rintro l2 pre x X hpre ⟨hbu, hbl, hle⟩
  have hlen : pre.length ≤ 1000000000 := Nat.le_trans (Nat.le_trans (Nat.le_trans (by rw [List.length_append]; exact Nat.le_add_right _ _) (hpre.length_le)) HLEN.out) (Nat.le_refl _)
  have HBU := hid hbu
  have HBL := hid hbl
  have HLE := hid hle
  have c1 := cell_box hbu
  have f1 := frozen_box hbu
  clear hbu hbl hpre hle
  obtain ⟨M, hM⟩ : ∃ M : Int, (pre.length : Int) + 1 = M := ⟨_, rfl⟩
  have hw : IntKind.i64.wrap ((pre.length : Int) + 1) = M := by rw [hM]; exact wrap_small _ (by omega) (by omega)
  have HMM : Hid ((pre.length : Int) + 1 = M) := hid hM
  clear hM
  gi_wp2
  refine ⟨⟨?_, HBL.out.setCell (p := ⟨w.heap.size + 1, 0, none⟩) (Nat.le_succ _) _, by simpa [World.setCell] using HLE.out⟩, .setCell 0 _ (Nat.le_succ _) hlt hlt⟩
  rw [HMM.out]
  exact Go.Boxed.set _ HBU.out
 case done =>
  rintro D X hD ⟨hbu, hbl, hle⟩ hm
  have HBL := hid hbl
  have HM := hid hm
  have c1 := cell_box hbu
  clear hbu hbl hm hle
  dsimp only
  gi_wp2
  refine leaves_marks [D] X (by simp) (fun E hE => by rw [List.mem_singleton.1 hE]; exact HM.out) ⟨_, results_tmp rfl _ _ _, ?_, ?_⟩
  ·show Ending.returned (.int .i64 ((flL d).length : Int)) = _
   rw [HCT.out]
  ·exact HBL.out.trans ((shut_facts (t := T8) (B := w.heap.size) [D] X (fun E hE => by rw [List.mem_singleton.1 hE]; exact ⟨by have := HL2.out.size; omega, _, HM.out, rfl⟩)).below (Nat.le_refl _) HBL.out.size)
end
end Go.Proofs.YtmdgpejedbkkdaaGreatDoor
