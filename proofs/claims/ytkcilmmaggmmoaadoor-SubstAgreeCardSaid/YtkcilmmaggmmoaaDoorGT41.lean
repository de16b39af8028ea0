/- TmpTxt -/
import Derived.Test.YtkcilmmaggmmoaaDoorGT19
import Derived.Test.YtkcilmmaggmmoaaDoorGT27
import Derived.Test.YtkcilmmaggmmoaaDoorGT39
import Derived.Test.YtkcilmmaggmmoaaDoorGT40
set_option linter.unusedVariables false
set_option linter.unusedSimpArgs false
set_option maxRecDepth 100000
set_option maxHeartbeats 16000000
open Go.Lib (hid)
namespace Go.Proofs.YtkcilmmaggmmoaaDoor
namespace Nw
end Nw
namespace T13
end T13
end Go.Proofs.YtkcilmmaggmmoaaDoor
namespace Go.Proofs.YtkcilmmaggmmoaaDoor
section
open Go.RowKit Go.Sort
open Nw T13 Go.ChangeShapes Go.WideShapes
theorem replaceK_dl (l : List UInt8) : Lib.replaceK [36] [36, 36] (Lib.count l [36]) l = escD l := by
 induction l with
 | nil => rw [Lib.count_one]; rfl
 | cons c l ih =>
  rw [escD]
  by_cases h : c = 36
  ·subst h
   rw [if_pos rfl, Lib.count_cons_eq, Nat.add_comm, Lib.replaceK_hit _ _ _ _ 0 (by rw [Lib.index]; simp [List.isPrefixOf])]
   simp only [List.take_zero, List.nil_append, Nat.zero_add, List.length_cons, List.length_nil, List.drop_succ_cons, List.drop_zero]
   rw [ih]
   rfl
  ·rw [if_neg h, Lib.count_cons_ne c 36 l h]
   have hp : ([36] : List UInt8).isPrefixOf (c :: l) = false := by simp [List.isPrefixOf, Ne.symm h]
   have hix : Lib.index (c :: l) [36] = if Lib.index l [36] == -1 then -1 else Lib.index l [36] + 1 := by rw [Lib.index, hp]; simp
   cases hk : Lib.count l [36] with
   | zero =>
    rw [hk] at ih
    rw [← ih]; rfl
   | succ k =>
    obtain ⟨i, hi⟩ := Lib.index_of_count (s := l) (old := [36]) (by omega)
    rw [hi] at hix
    have : ((i : Int) == -1) = false := beq_eq_false_iff_ne.2 (by omega)
    rw [this] at hix
    simp only [Bool.false_eq_true, if_false] at hix
    rw [hk, Lib.replaceK_hit _ _ _ _ i hi] at ih
    rw [Lib.replaceK_hit _ _ _ _ (i + 1) (by rw [hix]; omega), ← ih]
    simp [List.take_succ_cons]
theorem replace_dl (l : List UInt8) : Lib.replaceAll l [36] [36, 36] = escD l := by
 have h : (([36] : List UInt8) == [36, 36]) = false := by decide
 unfold Lib.replaceAll Lib.replace Lib.replaceNum
 rw [h, if_neg Bool.false_ne_true, if_pos (.inl (by decide))]
 exact replaceK_dl l
theorem replace13 (s q : ByteArray) (w : World) (hw : SomeMax w) (hs : s.size ≤ 1000000) (h : escD s.data.toList = q.data.toList) :
  Calls Tryd.prog 41 #[.string s, .string ⟨#[36]⟩, .string ⟨#[36, 36]⟩] w fun e w' => e = .returned (.string q) ∧ Below w.heap.size w w' := by
 obtain ⟨m, hm⟩ := hw
 have hc := Lib.countB_le ⟨#[36]⟩ (by decide) s.size s (Nat.le_refl _)
 refine (Tryd.strings_ReplaceAll s ⟨#[36]⟩ ⟨#[36, 36]⟩ m w (by omega) hm (by decide) (by show _ + _ * 2 ≤ _; omega)).mono ?_
 rintro e w' ⟨rfl, hb⟩
 exact ⟨by
  show Ending.returned (.string ⟨(Lib.replaceAll s.data.toList [36] [36, 36]).toArray⟩) = _
  rw [replace_dl, h, show (⟨q.data.toList.toArray⟩ : ByteArray) = q from bytes_ext (by simp)], hb⟩
section
variable {P : Program}
theorem step_str_lies {ops : Array Oper} {o : Oper} {a : Act} {w : World} {K : Act → World → Prop} {Q : Exit → Act → World → Prop} {E : Prop} (hgd : o.guard = none) (sl x : Operand) (t u : TypeId)
  (ho : o.op = .call { callee := .builtin .append, args := #[sl, x], argTypes := #[t, u] })
  (base : Nat) (e : TypeId) (i : TypeInfo) (ht : P.underlying t = some (.slice e)) (hu : P.underlying u = some .string) (hi : P.info? e = some i) (hz : i.zero = some (.int .u8 0))
  (hsize : i.size = 1) (hby : i.bytes = 1)
  (v : Value) (n : Nat) (xs : List Value) (hs : a.eval sl = v) (hown : w.ownsRow base e 1 v n xs) (s : ByteArray) (hx : a.eval x = .string s) (h0 : 0 < n + s.size)
  (h63 : n + s.size ≤ maxLen) (hbytes : n + s.size ≤ 140737488355328) (hbase : base ≤ w.heap.size)
  (h : ∀ g cap w', w'.ownsRow base e 1 (.slice (some ⟨g, 0, none⟩) (n + s.size) cap) (n + s.size) (xs ++ Lib.strCells s) → w.grownBy w' v.ownBlock → (v.ownBlock = some g ∨ w.heap.size ≤ g) → K (a.put o.dst (.slice (some ⟨g, 0, none⟩) (n + s.size) cap)) w') :
  if Region.wanted o (yielded ops a.tmps) = true then Oper.wp P o a w K Q else E := by
 rw [if_pos (by simp [Region.wanted, hgd])]
 obtain ⟨g, cap, w', hr, h2, h3, h4⟩ := run_append_str_lies (P := P) w base t u o.type e i ht hu hi hz hsize hby v n xs hown s h0 h63 hbytes hbase
 unfold Oper.wp execOp
 simp only [ho, resolve, invoke, builtin, Sem.run_bind, Sem.run_pure, Result.andThen_ok, List.map_toArray, List.map_cons, List.map_nil, hs, hx, hr]
 exact h g cap w' h2 h3 h4
end
def PwB (base : Nat) (w : World) : Prop := Pw13 w ∧ 1 < base ∧ 0 < base
theorem PwB.grw {t : TypeId} {w w1 : World} {base n : Nat} {v v1 : Value} {xs : List Value} (h : PwB base w) (hG : Grw t w w1 base v v1 n xs) (hv : ∀ g, v.ownBlock = some g → base ≤ g) : PwB base w1 := by
 obtain ⟨⟨h1, m, h2⟩, h3, h4⟩ := h
 exact ⟨⟨fun k hk => hG.cell hv (h1 k hk) h4, m, hG.cell hv h2 h3⟩, h3, h4⟩
theorem wf_ops {D : Nat} {n t : L8} {o : Int} {s : List Pt} (h : WfP D (.mk n t o s)) : 0 ≤ o ∧ o ≤ 7 ∧ (o = 0 → t ≠ []) := by
 rw [WfP] at h
 rcases h with h | h | h
 ·exact ⟨by omega, by omega, fun _ => h.2.2.1⟩
 ·exact ⟨by omega, by omega, fun e => by omega⟩
 ·exact ⟨by omega, by omega, fun e => by omega⟩
theorem txtL_le_take (ps : List Pt) (j : Nat) : (txtL (ps.take j)).length ≤ (txtL ps).length := by
 conv => rhs; rw [← List.take_append_drop j ps, txtL_app, List.length_append]
 omega
theorem own_len1 {w : World} {base n : Nat} {v : Value} {l : L8} (h : w.ownsRow base 5 1 v n (l.map encB)) : l.length = n := own_len h
theorem appendParts_any (N : Nat) : ∀ (ps : List Pt), cntL ps < N → ∀ (D : Nat), WfL D ps → ∀ (l : L8) (m base : Nat) (v u : Value) (w : World), PwB base w → w.ownsRow base 5 1 v m (l.map encB) → base ≤ w.heap.size → PtL (· < base) w u ps → m + (txtL ps).length ≤ 1000000 →
  Calls Tryd.prog 26 #[v, u] w fun e w' => ∃ v', e = .returned v' ∧ Grw 5 w w' base v v' (m + (txtL ps).length) ((l ++ txtL ps).map encB) := by
 obtain ⟨i0, hi, hz0, hz1, hz2⟩ := infoB
 induction N with
 | zero => intro ps hc; omega
 | succ N ih =>
  intro ps hc D hw l m base v u w hpw hown hbase hpt hbig
  have HIH := hid ih
  have HP := hid hpt
  have HW := hid hw
  have HPW := hid hpw
  have HV : Hid (∀ g, v.ownBlock = some g → base ≤ g) := hid fun g hg => (hown.lt g hg).1
  have HBS := hid hbase
  have HBIG := hid hbig
  obtain ⟨A, cap, rfl, hcap, hcm, -⟩ := hpt
  unfold maxLen at hcm
  have HC := hid hc
  obtain ⟨n, hn⟩ : ∃ n, n = ps.length := ⟨_, rfl⟩
  rw [← hn] at hcap HP ⊢
  have HN := hid hn
  have HZ : Hid (l = l ++ txtL (ps.take 0)) := hid (by rw [List.take_zero, txtL, List.append_nil])
  have HG0 : Hid (Grw 5 w w base v v m (l.map encB)) := hid (Grw.refl hown)
  have HKL : Hid (l.length = m) := hid (own_len1 hown)
  obtain ⟨RL, hRL⟩ : ∃ RL, m + (txtL ps).length = RL := ⟨_, rfl⟩
  obtain ⟨RN, hRN⟩ : ∃ RN, l ++ txtL ps = RN := ⟨_, rfl⟩
  rw [hRL, hRN]
  have HRL := hid hRL
  have HRN := hid hRN
  have hm0 : m ≤ 1000000 := by omega
  clear ih hc hn hw hpw hown hbase hbig hRL hRN
  go_enter Tryd.func26, Tryd.ntmps26
  go_wp2
  go_loopw [0, 10] (fun s0 i wr => ∃ (j M : Nat) (L : L8), j ≤ n ∧ i = .int .i64 (j : Int) ∧ M ≤ 1000000 ∧ Hid (L = l ++ txtL (ps.take j)) ∧ Hid (Grw 5 w wr base v s0 M (L.map encB))) (fun _ i _ => n - (intOf i).toNat)
  case atStart => exact ⟨0, m, l, Nat.zero_le _, rfl, hm0, HZ, HG0⟩
  case round =>
   clear HZ HG0
   obtain ⟨j, M, L, hj, rfl, hM, HL, HG⟩ := hrel
   by_cases hlt : j < n
   ·have hjl : Hid (j < ps.length) := hid (by have := HN.out; omega)
    obtain ⟨b, o, e0, e1, e2, e3, rfl, hbl, x0, x1, x2, x3, hsub⟩ := PtL.at_ HP.out j hjl.out
    have y0 := HG.out.cell HV.out (p := ⟨b, o + j * 4, none⟩) x0 hbl
    have y1 := HG.out.cell HV.out (p := ⟨b, o + j * 4 + 1, none⟩) x1 hbl
    have y2 := HG.out.cell HV.out (p := ⟨b, o + j * 4 + 2, none⟩) x2 hbl
    have y3 := HG.out.cell HV.out (p := ⟨b, o + j * 4 + 3, none⟩) x3 hbl
    clear x0 x1 x2 x3
    have hstep : txtL (ps.take (j + 1)) = txtL (ps.take j) ++ txtP (ps[j]'hjl.out) := txtL_take hjl.out
    have hcs := @cnt_sub ps j hjl.out
    have hwp := wfL_at HW.out j hjl.out
    have hle := txtL_le_take ps (j + 1)
    obtain ⟨p, hp⟩ : ∃ p, ps[j]'hjl.out = p := ⟨_, rfl⟩
    rw [hp] at hsub hstep hwp
    obtain ⟨nm, tx, op, sb⟩ := p
    have hcs2 := hcs hp
    obtain ⟨rfl, rfl, rfl, hsb⟩ := hsub.sub
    obtain ⟨B, n2, c2, rfl⟩ := hsb.slice
    obtain ⟨ho0, ho7, htx⟩ := wf_ops hwp
    have hjz : (j : Int) < (n : Int) := by omega
    have hjc : (j : Int) < (cap : Int) := by omega
    rw [txtP] at hstep
    obtain ⟨Nm, hNm⟩ : ∃ Nm, ba nm = Nm := ⟨_, rfl⟩
    obtain ⟨Tx, hTx⟩ : ∃ Tx, ba tx = Tx := ⟨_, rfl⟩
    rw [hNm] at y0
    rw [hTx] at y1
    have hNl : Nm.data.toList = nm := by rw [← hNm, ba_data]
    have hTl : Tx.data.toList = tx := by rw [← hTx, ba_data]
    have hML : L.length = M := own_len1 HG.out.1
    have hlen : L.length = m + (txtL (ps.take j)).length := by rw [HL.out, List.length_append, HKL.out]
    have hbg := HBIG.out
    rw [hstep, List.length_append] at hle
    obtain ⟨W1, hW1⟩ : ∃ W1, wr.alloc (.cells #[.string Nm, .string Tx, .int .i64 op, .slice B n2 c2] 54) = W1 := ⟨_, rfl⟩
    have hX : RowT W1 wr.heap.size 54 (.string Nm) (.string Tx) (.int .i64 op) (.slice B n2 c2) := by rw [← hW1]; exact RowT.make wr _ _ _ _ _
    have hnv : u0.ownBlock ≠ some wr.heap.size := own_ne HG.out.1 (Nat.le_refl _)
    obtain ⟨XS, hXS⟩ : ∃ XS, L.map encB = XS := ⟨_, rfl⟩
    rw [hXS] at HG
    have HXS := hid hXS
    have HG1 : Hid (Grw 5 w W1 base v u0 M XS) := hid (by rw [← hW1]; exact HG.out.alloc _)
    have hb1 : base ≤ W1.heap.size := Nat.le_trans HBS.out HG1.out.size
    obtain ⟨z0, z1, z2, z3⟩ := hX.cells
    by_cases ho : op = 0
    ·subst ho
     rw [if_pos rfl] at hstep hle
     have hge := escD_ge tx
     have hpos : 1 ≤ tx.length := List.length_pos_iff.2 (htx rfl)
     obtain ⟨q, hq⟩ : ∃ q : ByteArray, q.data.toList = escD tx := ⟨ba _, ba_data _⟩
     have hqs : q.size = (escD tx).length := by rw [← len13, hq]
     have hq1 : 1 ≤ q.size := by omega
     have hq2 : M + q.size ≤ 1000000 := by omega
     have htl : Tx.size ≤ 1000000 := by rw [← len13, hTl]; omega
     have hL2 : Hid (L ++ escD tx = l ++ txtL (ps.take (j + 1))) := hid (by rw [hstep, HL.out, List.append_assoc])
     have HRA := hid (replace13 Tx q W1 (HPW.out.grw HG1.out HV.out).1.2 htl (by rw [hTl, hq]))
     have HQ := hid hq
     have hne : ((0 : Int) == 0) = true := rfl
     clear hsub hp hcs hcs2 hsb hstep hwp hNm hTx hNl hTl hle hML hlen hbg hge hpos hqs htl hq htx ho0 ho7 hX hXS hnv
     go_upto_region 11 with first
      | (go_at_call 41; refine HRA.out.mono ?_; rintro e W2 ⟨rfl, hb2⟩; have HG2 := hid (HG1.out.below hb2); have hb3 := Nat.le_trans HBS.out HG2.out.size; clear hb2)
      | (at_builtin; refine wpList_str_lies rfl _ _ 62 9 rfl base 5 i0 Tryd.underlying62 Tryd.underlying9 hi hz0 hz1 hz2 u0 M XS rfl HG2.out.1 q rfl (by omega) (by unfold maxLen; omega) (by omega) hb3 ?_; intro g5 cap5 W5 ho5 hg5 hat5; have HG5 := hid (HG2.out.trans (Grw.lies ho5 hg5 hat5)); clear ho5 hg5 hat5)
     go_wp2
     go_roundw
     case rel => exact ⟨j + 1, M + q.size, L ++ escD tx, by omega, by go_num, hq2, hL2, by have := HG5; rw [← HXS.out, str_enc, HQ.out, ← List.map_append] at this; exact this⟩
     case measure => simp [intOf]; omega
    ·rw [if_neg ho] at hstep hle
     obtain ⟨Q, hQ⟩ : ∃ Q : ByteArray, (⟨#[36, 123]⟩ : ByteArray) ++ Nm = Q := ⟨_, rfl⟩
     have hQl : Q.data.toList = 36 :: 123 :: nm := by rw [← hQ, data_app, hNl]; rfl
     have hQs : Q.size = nm.length + 2 := by rw [← len13, hQl]; rfl
     have hne : (op == 0) = false := beq_eq_false_iff_ne.2 ho
     have HQL := hid hQl
     have HOP := hid (fun (o' : Nat) (ho8 : o' < 8) (W : World) (v1 : Value) (k : Nat) (ys : List Value) (hG : Grw 5 w W base v v1 k ys) => operator_any (w := W) o' (HPW.out.grw hG HV.out).1.1 ho8)
     by_cases hop1 : op = 1
     ·subst hop1
      have hC4 : Cells4 wr.heap.size (.string Nm) (.string Tx) (.int .i64 1) (.slice B n2 c2) W1 := ⟨hX.lt, hX.cells⟩
      rw [show (if (1 : Int) < 1 then txtL sb else []) = [] from rfl, show markL (1 : Int) = [] from rfl] at hstep hle
      have hlq : M + Q.size + 1 ≤ 1000000 := by
       simp only [List.length_cons, List.length_append, List.length_nil] at hle
       omega
      have hL2 : Hid ((L ++ Q.data.toList) ++ [125] = l ++ txtL (ps.take (j + 1))) := hid (by rw [hstep, HL.out, hQl]; simp)
      have HO1 : Hid (∀ (W : World) (v1 : Value) (k : Nat) (ys : List Value), Grw 5 w W base v v1 k ys → Calls Tryd.prog 42 #[.int .i64 1] W fun e w' => e = .returned (.string ⟨#[]⟩) ∧ W = w') := hid (fun W v1 k ys hG => HOP.out 1 (by decide) W v1 k ys hG)
      have hq1 : 2 ≤ Q.size := by omega
      have hNs : Nm.size ≤ 1000000 := by rw [← len13, hNl]; omega
      clear hsub hp hcs hcs2 hsb hstep hwp hNm hTx hNl hTl hle hML hlen hbg htx ho0 ho7 hX hXS hQl hQs HOP
      go_upto_region 11 with first
       | (at_builtin; refine wpList_str_lies rfl _ _ 62 9 rfl base 5 i0 Tryd.underlying62 Tryd.underlying9 hi hz0 hz1 hz2 u0 M XS rfl HG1.out.1 Q rfl (by omega) (by unfold maxLen; omega) (by omega) hb1 ?_; intro g3 cap3 W3 ho3 hg3 hat3; have HG3 := hid (HG1.out.trans (Grw.lies ho3 hg3 hat3)); have hC3 := keep4_grown hg3 hnv hC4; obtain ⟨-, r0, r1, r2, r3⟩ := hC3; have hb3 := Nat.le_trans HBS.out HG3.out.size; clear ho3 hg3 hat3)
       | (go_at_call 42; refine (HO1.out _ _ _ _ HG3.out).mono ?_; rintro e W4 ⟨rfl, rfl⟩)
       | (at_builtin; refine wpList_str_lies rfl _ _ 62 9 rfl base 5 i0 Tryd.underlying62 Tryd.underlying9 hi hz0 hz1 hz2 (.slice (some ⟨g3, 0, none⟩) (M + Q.size) cap3) (M + Q.size) _ rfl HG3.out.1 ⟨#[125]⟩ rfl (by omega) (by have h1 : (⟨#[125]⟩ : ByteArray).size = 1 := rfl; unfold maxLen; omega) (by have h1 : (⟨#[125]⟩ : ByteArray).size = 1 := rfl; omega) hb3 ?_; intro g5 cap5 W5 ho5 hg5 hat5; have HG5 := hid (HG3.out.trans (Grw.lies ho5 hg5 hat5)); clear ho5 hg5 hat5)
      go_wp2
      go_roundw
      case rel => exact ⟨j + 1, M + Q.size + 1, (L ++ Q.data.toList) ++ [125], by omega, by go_num, hlq, hL2, by have := HG5; rw [← HXS.out, str_enc, str_enc, ← List.map_append, ← List.map_append] at this; exact this⟩
      case measure => simp [intOf]; omega
     ·obtain ⟨o', rfl⟩ : ∃ o' : Nat, op = (o' : Int) := ⟨op.toNat, by omega⟩
      have ho2 : 2 ≤ o' := by omega
      have ho8 : o' < 8 := by omega
      have hC4 : Cells4 wr.heap.size (.string Nm) (.string Tx) (.int .i64 (o' : Int)) (.slice B n2 c2) W1 := ⟨hX.lt, hX.cells⟩
      obtain ⟨E, hE⟩ := wf_sub hwp
      obtain ⟨X, hX5⟩ : ∃ X, ba (markL (o' : Int)) = X := ⟨_, rfl⟩
      have hXl : X.data.toList = markL (o' : Int) := by rw [← hX5, ba_data]
      rw [if_pos (show (1 : Int) < ((o' : Nat) : Int) by omega), ← hXl] at hstep hle
      have hXne : X.data.toList ≠ [] := by
       rw [hXl]
       match o', ho2, ho8 with
       | 2, _, _ => decide
       | 3, _, _ => decide
       | 4, _, _ => decide
       | 5, _, _ => decide
       | 6, _, _ => decide
       | 7, _, _ => decide
      have q0 : X.toList.isEmpty = false := by rw [ByteArray.toList_eq, List.isEmpty_eq_false_iff]; exact hXne
      have q0' : ¬ X.toList = [] := by rw [ByteArray.toList_eq]; exact hXne
      have q1 : (X.toList == []) = false := beq_eq_false_iff_ne.2 q0'
      have q2 : (X.toList != []) = true := bne_iff_ne.2 q0'
      have hlq : M + Q.size + X.size + (txtL sb).length + 1 ≤ 1000000 := by
       simp only [List.length_cons, List.length_append, List.length_nil, len13] at hle
       omega
      have hL2 : Hid (((L ++ Q.data.toList) ++ X.data.toList) ++ txtL sb ++ [125] = l ++ txtL (ps.take (j + 1))) := hid (by rw [hstep, HL.out, hQl]; simp)
      have HO1 : Hid (∀ (W : World) (v1 : Value) (k : Nat) (ys : List Value), Grw 5 w W base v v1 k ys → Calls Tryd.prog 42 #[.int .i64 (o' : Int)] W fun e w' => e = .returned (.string X) ∧ W = w') := hid (fun W v1 k ys hG => by rw [← hX5]; exact HOP.out o' ho8 W v1 k ys hG)
      have hq1 : 2 ≤ Q.size := by omega
      have hNs : Nm.size ≤ 1000000 := by rw [← len13, hNl]; omega
      have HREC0 : Hid (∀ (W : World) (k : Nat) (v1 : Value) (ys : L8), Grw 5 w W base v v1 k (ys.map encB) → k + (txtL sb).length ≤ 1000000 → Calls Tryd.prog 26 #[v1, .slice B n2 c2] W fun e w' => ∃ v', e = .returned v' ∧ Grw 5 W w' base v1 v' (k + (txtL sb).length) ((ys ++ txtL sb).map encB)) := hid (fun W k v1 ys hG hk => HIH.out sb (by have := HC.out; omega) E hE ys k base v1 _ W (HPW.out.grw hG HV.out) hG.1 (Nat.le_trans HBS.out hG.size) (hG.pts HV.out HBS.out hsb) hk)
      obtain ⟨SBx, hSB⟩ : ∃ SBx, txtL sb = SBx := ⟨_, rfl⟩
      rw [hSB] at HREC0 hlq hL2
      have HLQ := hid hlq
      clear hsub hp hcs hcs2 hsb hstep hwp hNm hTx hNl hTl hle hML hlen hbg htx ho0 ho7 hX hXS hQl hQs HOP hXne hXl hX5 hE hSB
      have hlq2 : M + Q.size + X.size ≤ 999999 := by omega
      clear hlq
      go_upto_region 9 with first
       | (at_builtin; refine wpList_str_lies rfl _ _ 62 9 rfl base 5 i0 Tryd.underlying62 Tryd.underlying9 hi hz0 hz1 hz2 u0 M XS rfl HG1.out.1 Q rfl (by omega) (by unfold maxLen; omega) (by omega) hb1 ?_; intro g3 cap3 W3 ho3 hg3 hat3; have HG3 := hid (HG1.out.trans (Grw.lies ho3 hg3 hat3)); have hC3 := keep4_grown hg3 hnv hC4; have HC3 := hid hC3; obtain ⟨-, r0, r1, r2, r3⟩ := hC3; have hb3 := Nat.le_trans HBS.out HG3.out.size; have HN3 : Hid ((some g3 : Option Nat) ≠ some wr.heap.size) := hid (fun e => by injection e with e; rcases hat3 with h | h; exact hnv (by rw [h, e]); have := hC4.1; omega); clear ho3 hg3 hat3)
       | (go_at_call 42; refine (HO1.out _ _ _ _ HG3.out).mono ?_; rintro e W4 ⟨rfl, rfl⟩)
      clear hW1 z0 z1 z2 z3
      have hP : PWt 5 W3 base (.slice (some ⟨g3, 0, none⟩) (M + Q.size) cap3) (M + Q.size) (XS ++ Lib.strCells Q) W3.drew := ⟨below_drew13 W3, hb3, HG3.out.1⟩
      have hC9 : Cells4 wr.heap.size (.string Nm) (.string Tx) (.int .i64 (o' : Int)) (.slice B n2 c2) W3.drew := HC3.out
      have hn3 : (Value.slice (some ⟨g3, 0, none⟩) (M + Q.size) cap3).ownBlock ≠ some wr.heap.size := HN3.out
      have HREC : Hid (∀ (W : World) (gA cA : Nat), Grw 5 W3 W base (.slice (some ⟨g3, 0, none⟩) (M + Q.size) cap3) (.slice (some ⟨gA, 0, none⟩) (M + Q.size + X.size) cA) (M + Q.size + X.size) (XS ++ Lib.strCells Q ++ Lib.strCells X) → Calls Tryd.prog 26 #[.slice (some ⟨gA, 0, none⟩) (M + Q.size + X.size) cA, .slice B n2 c2] W fun e w' => ∃ v', e = .returned v' ∧ Grw 5 W w' base (.slice (some ⟨gA, 0, none⟩) (M + Q.size + X.size) cA) v' (M + Q.size + X.size + SBx.length) (((L ++ Q.data.toList) ++ X.data.toList ++ SBx).map encB)) := hid (fun W gA cA hW => HREC0.out W _ _ ((L ++ Q.data.toList) ++ X.data.toList) (by
       have := HG3.out.trans hW
       rw [← HXS.out, str_enc, str_enc, ← List.map_append, ← List.map_append] at this
       exact this) (by have := HLQ.out; omega))
      have HNA : Hid (∀ gA, (Value.slice (some ⟨g3, 0, none⟩) (M + Q.size) cap3).ownBlock = some gA ∨ W3.heap.size ≤ gA → (some gA : Option Nat) ≠ some wr.heap.size) := hid (fun gA h e => by
       injection e with e
       rcases h with h | h
       ·exact hn3 (by rw [h, e])
       ·have := HC3.out.1; omega)
      have hgs : W3.heap.size = W3.drew.heap.size := rfl
      clear hgs
      go_region_held3 (fun W => wr.heap.size < W.heap.size ∧ W.cell? ⟨wr.heap.size, 0, none⟩ = some (.string Nm) ∧ W.cell? ⟨wr.heap.size, 1, none⟩ = some (.string Tx) ∧ W.cell? ⟨wr.heap.size, 2, none⟩ = some (.int .i64 (o' : Int)) ∧ W.cell? ⟨wr.heap.size, 3, none⟩ = some (.slice B n2 c2)) (first | exact hC9 | assumption | exact keep4_grown hgA hn3 (by assumption) | exact keep4_grown hgB hnA (by assumption)) (first | (refine step_str_lies rfl (.tmp 32) (.tmp 33) 62 9 rfl base 5 i0 Tryd.underlying62 Tryd.underlying9 hi hz0 hz1 hz2 (.slice (some ⟨g3, 0, none⟩) (M + Q.size) cap3) (M + Q.size) _ rfl hP.2.2 X rfl (by omega) (by unfold maxLen; omega) (by omega) hP.2.1 ?_; intro gA cA wA hoA hgA hatA; have hKA := hP.grw hoA hgA hatA; have hnA := HNA.out gA hatA) | (go_at_call 26; refine (HREC.out _ _ _ hKA).mono ?_; rintro e wB ⟨vB, rfl, hKB⟩; have hgB := hKB.2.1; have HKB := hid (HG3.out.trans (hKA.trans hKB))))
      all_goals
       have HF := hid HKB.out
       have hb9 := Nat.le_trans HBS.out HF.out.size
       have hl9 : M + Q.size + X.size + SBx.length ≤ 999999 := by have := HLQ.out; omega
       obtain ⟨Y, hY⟩ : ∃ Y, M + Q.size + X.size + SBx.length = Y := ⟨_, rfl⟩
       have HF2 : Hid (Grw 5 w wB base v vB Y (((L ++ Q.data.toList) ++ X.data.toList ++ SBx).map encB)) := hid (by rw [← hY]; exact HF.out)
       rw [hY] at hl9
       go_upto_region 11 with (at_builtin; refine wpList_str_lies rfl _ _ 62 9 rfl base 5 i0 Tryd.underlying62 Tryd.underlying9 hi hz0 hz1 hz2 vB Y _ rfl HF2.out.1 ⟨#[125]⟩ rfl (by have h1 : (⟨#[125]⟩ : ByteArray).size = 1 := rfl; omega) (by have h1 : (⟨#[125]⟩ : ByteArray).size = 1 := rfl; unfold maxLen; omega) (by have h1 : (⟨#[125]⟩ : ByteArray).size = 1 := rfl; omega) hb9 ?_; intro g5 cap5 W5 ho5 hg5 hat5; have HG5 := hid (HF2.out.trans (Grw.lies ho5 hg5 hat5)); clear ho5 hg5 hat5)
       go_wp2
       go_roundw
       case rel => exact ⟨j + 1, Y + 1, ((L ++ Q.data.toList) ++ X.data.toList ++ SBx) ++ [125], by omega, by go_num, by omega, hL2, by have := HG5; rw [str_enc, ← List.map_append] at this; exact this⟩
       case measure => simp [intOf]; omega
   ·obtain rfl : j = n := by omega
    have HF : Hid (Grw 5 w wr base v u0 RL (RN.map encB)) := hid (by
     have h1 : L = RN := by rw [HL.out, ← HRN.out, show j = ps.length from HN.out, List.take_length]
     have h2 : M = RL := by
      have h3 := own_len1 HG.out.1
      rw [h1, ← HRN.out, List.length_append, HKL.out] at h3
      have h4 := HRL.out
      omega
     rw [← h1, ← h2]
     exact HG.out)
    go_wp2
    go_ret
    exact ⟨_, rfl, HF.out⟩
end
end Go.Proofs.YtkcilmmaggmmoaaDoor
