/- EmiWr2, RefEmi5, EmiLaw1, EmiLaw3 -/
import Derived.Test.YtmdgpejedbkkdaaGreatDoorWT15
import Derived.Test.YtmdgpejedbkkdaaGreatDoorWT19
import Derived.Test.YtmdgpejedbkkdaaGreatDoorWT25
import Derived.Test.YtmdgpejedbkkdaaGreatDoorWT44
import Derived.Test.YtmdgpejedbkkdaaGreatDoorWT45
set_option linter.unusedVariables false
set_option linter.unusedSimpArgs false
set_option maxRecDepth 100000
set_option maxHeartbeats 16000000
open Go.Lib (hid)
namespace Go.Proofs.YtmdgpejedbkkdaaGreatDoor
section
open Go.RowKit Go.Sort
open Nw N8 Q6 F9 B10 E11
attribute [local go_sem] Oper.semAt_some
theorem cells_more (l : L8) (q : ByteArray) : Lib.byteCells l ++ Lib.strCells q ++ [Value.int .u8 10] = Lib.byteCells (l ++ (q.data.toList ++ [10])) := by
 rw [Lib.strCells_eq]; unfold Lib.byteCells; rw [List.map_append, List.map_append, List.append_assoc]; rfl
theorem used_builder {T e : TypeId} {B b : Nat} {bs : List Value} {w : World} (h : Lib.BuilderAtF T e B b (.pointer (some ⟨b, 0, none⟩)) bs w) : Lib.IsBuilderF T e B b bs w := .inr h
theorem lim_lines {d : Nd} (hf : N8.Fine d) (hl : (wrB d).length ≤ 1000000000) (h0 : d.kind ≠ 0) (h1 : ¬ (d.kind = 1 ∧ marker d.text = true)) : Lim (lnT d) := by
 rw [wrB_lines hf] at hl
 unfold flL at hl
 rw [if_neg h0, if_neg h1] at hl
 exact fun x hx => Nat.le_trans (line_le hx) hl
theorem lim_any {d : Nd} (hf : N8.Fine d) (hl : (wrB d).length ≤ 1000000000) : Lim (lnT d) := by
 by_cases h0 : d.kind = 0
 ·obtain ⟨k, t, ks, ds⟩ := d
  have h0 : k = 0 := h0
  subst h0
  rw [lnT_short (d := .mk 0 t ks ds) (by unfold shrt; rfl)]
  intro x hx
  rw [List.mem_singleton.1 hx]
  have e : scal (.mk 0 t ks ds) = [110, 117, 108, 108] := by
   show (if (0 : Int) = 0 then ([110, 117, 108, 108] : L8) else if (0 : Int) = 1 then scw t else if (0 : Int) = 2 then [91, 93] else [123, 125]) = _
   rw [if_pos rfl]
  rw [e]
  decide
 ·by_cases h1 : d.kind = 1 ∧ marker d.text = true
  ·obtain ⟨k, t, ks, ds⟩ := d
   obtain ⟨hk, hm⟩ := h1
   have hk : k = 1 := hk
   have hm : marker t = true := hm
   subst hk
   rw [lnT_short (d := .mk 1 t ks ds) (by unfold shrt; rfl)]
   intro x hx
   rw [List.mem_singleton.1 hx]
   have e : scal (.mk 1 t ks ds) = scw t := by
    show (if (1 : Int) = 0 then ([110, 117, 108, 108] : L8) else if (1 : Int) = 1 then scw t else if (1 : Int) = 2 then [91, 93] else [123, 125]) = _
    rw [if_neg (by decide), if_pos rfl]
   rw [e]
   have := scw_len t
   have hl3 : t.length = 3 := by
    have h2 : t = [45, 45, 45] ∨ t = [46, 46, 46] := mark_text hm
    rcases h2 with rfl | rfl <;> rfl
   omega
  ·exact lim_lines hf hl h0 h1
theorem Write_any (d : Nd) (hf : N8.Fine d) (hc : cntT d ≤ 2000) (hdp : depT d ≤ 12) (ha : allT 1000000 d) (hl : (wrB d).length ≤ 1000000000) (q : ByteArray) (hq : wrB d = q.data.toList) (c0 c1 c2 c3 : Value) (w : World) (hd : NdW w d c0 c1 c2 c3) :
  Calls Tryz.prog 8 #[.agg #[c0, c1, c2, c3]] w fun e w' => e = .returned (.string q) ∧ Below w.heap.size w w' := by
 obtain ⟨k1, s1, a1, n1, q1, A1, m1, r1, rfl, rfl, rfl, rfl⟩ := nd_shape hd
 have h1 := below_alloc w (.cells #[.int .i64 k1, .string s1, .slice a1 n1 q1, .slice A1 m1 r1] 25)
 have h2 := below_alloc (w.alloc (.cells #[.int .i64 k1, .string s1, .slice a1 n1 q1, .slice A1 m1 r1] 25)) (.cells #[.pointer none, .slice none 0 0] 42)
 have h12 := h1.trans (h2.mono h1.size)
 have hbu : Lib.IsBuilderF 42 T8 (w.heap.size + 1) (w.heap.size + 1) [] ((w.alloc (.cells #[.int .i64 k1, .string s1, .slice a1 n1 q1, .slice A1 m1 r1] 25)).alloc (.cells #[.pointer none, .slice none 0 0] 42)) := by
  have := Lib.fresh_isBuilder 42 T8 (w.alloc (.cells #[.int .i64 k1, .string s1, .slice a1 n1 q1, .slice A1 m1 r1] 25))
  rw [World.size_alloc] at this
  exact Lib.IsBuilderF.of this
 have HFL := hid (fun W (hn : w.heap.size ≤ W.heap.size) h => fileLines_any d hf hc hdp ha (lim_any hf hl) w.heap.size (.int .i64 k1) (.string s1) (.slice a1 n1 q1) (.slice A1 m1 r1) W hn h)
 have HND := hid (NdC.keep (T := (· < w.heap.size)) (fun b h => ⟨h, h12.block b h⟩) _ hd)
 have H12 := hid h12
 have HBU := hid hbu
 have HSZ : Hid (((w.alloc (.cells #[.int .i64 k1, .string s1, .slice a1 n1 q1, .slice A1 m1 r1] 25)).alloc (.cells #[.pointer none, .slice none 0 0] 42)).heap.size = w.heap.size + 2) := hid (by simp)
 have hwl : withLf (flL d) = q.data.toList := by rw [← wrB_lines hf, hq]
 have HWL := hid hwl
 have HLEN : Hid ((withLf (flL d)).length ≤ 1000000000) := hid (by rw [hwl, ← hq]; exact hl)
 obtain ⟨x0, x1, x2, x3⟩ := (show Row4 _ w.heap.size 25 (.int .i64 k1) (.string s1) (.slice a1 n1 q1) (.slice A1 m1 r1) from below_heap h2 (Row4.make w _ _ _ _ _)).cells
 clear hd h1 h2 h12 hbu hc hdp hf ha hl hq hwl
 refine (callsIn_wide (n := 1)).1 ?_
 refine callsIn_of_wp_marks Tryz.func8 rfl trivial ?_ rfl
 simp only [Tryz.ntmps8, List.size_toArray, List.length_cons, List.length_nil, Nat.reduceAdd, Nat.reduceSub, Array.replicate_succ, Array.replicate_zero, List.push_toArray, List.append_toArray, List.nil_append, List.cons_append]
 gi_wp2_with fail
 generalize (w.alloc (.cells #[.int .i64 k1, .string s1, .slice a1 n1 q1, .slice A1 m1 r1] 25)).alloc (.cells #[.pointer none, .slice none 0 0] 42) = W1 at *
 refine ⟨trivial, callsIn_wide.2 ((HFL.out W1 H12.out.size HND.out).mono ?_)⟩
 rintro e W2 ⟨v, rfl, hb2, gf, lb, rfl, eg, hit⟩
 have hsz2 := hb2.size
 have hlt : w.heap.size + 1 < W1.heap.size := by have := HSZ.out; omega
 have HB2 := hid (builder_turned HBU.out (.of_below hb2) hlt)
 have HL2 := hid (H12.out.trans (hb2.mono H12.out.size))
 clear x0 x1 x2 x3 hb2 HBU
 gi_wp2
 refine wpIn_lines (n0 := w.heap.size) (C := W1.heap.size) (xs := flL d) rfl eg rfl hit HL2.out.size hsz2
  (fun pre X => Lib.IsBuilderF 42 T8 (w.heap.size + 1) (w.heap.size + 1) (Lib.byteCells (withLf pre)) X ∧ Below w.heap.size w X ∧ W1.heap.size ≤ X.heap.size)
  (fun s X X' h hT => ⟨builder_turned h.1 hT (by omega), h.2.1.trans (hT.below (by omega) h.2.1.size), Nat.le_trans h.2.2 hT.size⟩)
  ⟨HB2.out, HL2.out, hsz2⟩ ?a1 ?assign ?body ?done
 case assign =>
  intro l x V K hK
  gi_wp2
  exact hK
 case body =>
  rintro l2 pre x X hpre ⟨hbu, hbl, hle⟩
  obtain ⟨z, hz⟩ : ∃ z : ByteArray, z.data.toList = x := ⟨ba x, ba_data x⟩
  have e1 := enc_q hz
  have hlen := Nat.le_trans (withLf_pre hpre) HLEN.out
  rw [withLf_snoc, List.length_append, List.length_append, ← hz, len_eq] at hlen
  have HS := hid (Tryz.Builder_WriteString_k (w.heap.size + 1) (w.heap.size + 1) (Lib.byteCells (withLf pre)) z X hbu (by rw [Lib.byteCells_length]; omega) (by omega))
  have HR : Hid (withLf (pre ++ [x]) = withLf pre ++ (z.data.toList ++ [10])) := hid (by rw [withLf_snoc, hz])
  have HBL := hid hbl
  have HLE := hid hle
  have HLN : Hid ((withLf pre).length + z.size + 1 ≤ 1000000000) := hid (by
   have : ([10] : L8).length = 1 := rfl
   omega)
  clear hbu hbl hpre hz hlen hle
  simp only [e1]
  gi_wp2_with fail
  refine ⟨trivial, CallsIn.inRound l2 (callsIn_wide.2 (HS.out.mono ?_))⟩
  rintro e X2 ⟨rfl, hbu2, hb2, ho2⟩
  have hs2 := hb2.size
  have HS2 := hid (Tryz.Builder_WriteByte_k (w.heap.size + 1) (w.heap.size + 1) _ 10 X2 (used_builder hbu2) (by
   have := HLN.out
   rw [List.length_append, Lib.byteCells_length, Lib.strCells_length]; omega) (by have := HLE.out; omega))
  have HK2 := hid (kept_others (n0 := w.heap.size) (C := W1.heap.size) hb2 ho2 (Nat.le_succ _) hlt)
  clear hbu2 hb2 ho2 HS
  gi_wp2_with fail
  refine ⟨trivial, CallsIn.inRound l2 (callsIn_wide.2 (HS2.out.mono ?_))⟩
  rintro e X3 ⟨rfl, hbu3, hb3, ho3⟩
  have HK3 := hid (HK2.out.trans (kept_others (n0 := w.heap.size) (C := W1.heap.size) hb3 ho3 (Nat.le_succ _) hlt))
  have hs3 := hb3.size
  have HB3 : Hid (Lib.IsBuilderF 42 T8 (w.heap.size + 1) (w.heap.size + 1) (Lib.byteCells (withLf (pre ++ [x]))) X3) := hid (by
   rw [HR.out, ← cells_more]; exact used_builder hbu3)
  clear hbu3 hb3 ho3 HS2 HK2
  gi_wp2
  exact ⟨⟨HB3.out, HBL.out.trans (HK3.out.below (by have := HBL.out.size; omega)), by have := HLE.out; omega⟩, HK3.out⟩
 case done =>
  rintro D X hD ⟨hbu, hbl, hle⟩ hm
  have HS := hid (Tryz.Builder_String_any_k (w.heap.size + 1) (w.heap.size + 1) (withLf (flL d)) X hbu (by omega))
  have HBL := hid hbl
  have HM := hid hm
  clear hbu hbl hm hle
  dsimp only
  gi_wp2_with fail
  refine ⟨trivial, callsIn_wide.2 (HS.out.mono ?_)⟩
  rintro e X2 ⟨rfl, -, hb2, ho2⟩
  have hmD : X2.heap[D]? = some (.deferred (some [])) := ho2 D _ HM.out (fun e => by injection e with e; omega) (fun c fz e => by cases e)
  have HB2 := hid (HBL.out.trans (hb2.mono (Nat.le_succ _)))
  clear hb2 ho2 HS
  gi_wp2
  refine leaves_marks [D] X2 (by simp) (fun E hE => by rw [List.mem_singleton.1 hE]; exact hmD) ⟨_, results_tmp rfl _ _ _, ?_, ?_⟩
  ·show Ending.returned (.string ⟨(withLf (flL d)).toArray⟩) = _
   rw [HWL.out]
  ·exact HB2.out.trans ((shut_facts (t := T8) (B := w.heap.size) [D] X2 (fun E hE => by rw [List.mem_singleton.1 hE]; exact ⟨by have := HL2.out.size; omega, _, hmD, rfl⟩)).below (Nat.le_refl _) HB2.out.size)
theorem lines_le (l : List L8) : l.length ≤ (withLf l).length := by
 induction l with
 | nil => exact Nat.zero_le _
 | cons x l ih =>
  rw [withLf_cons, List.length_append, List.length_append]
  simp only [List.length_cons, List.length_nil]
  omega
theorem Lines_any (d : Nd) (hf : N8.Fine d) (hc : cntT d ≤ 2000) (hdp : depT d ≤ 12) (ha : allT 1000000 d) (hl : (wrB d).length ≤ 1000000000) (c0 c1 c2 c3 : Value) (w : World) (hd : NdW w d c0 c1 c2 c3) :
  Calls Tryz.prog 10 #[.agg #[c0, c1, c2, c3]] w fun e w' => e = .returned (.int .i64 (nlN (wrB d) : Int)) ∧ Below w.heap.size w w' := by
 obtain ⟨k1, s1, a1, n1, q1, A1, m1, r1, rfl, rfl, rfl, rfl⟩ := nd_shape hd
 have h1 := below_alloc w (.cells #[.int .i64 k1, .string s1, .slice a1 n1 q1, .slice A1 m1 r1] 25)
 have h2 := below_alloc (w.alloc (.cells #[.int .i64 k1, .string s1, .slice a1 n1 q1, .slice A1 m1 r1] 25)) (.cells #[.int .i64 0] 3)
 have h12 := h1.trans (h2.mono h1.size)
 have hbu : ((w.alloc (.cells #[.int .i64 k1, .string s1, .slice a1 n1 q1, .slice A1 m1 r1] 25)).alloc (.cells #[.int .i64 0] 3)).heap[w.heap.size + 1]? = some (.cells #[.int .i64 0] 3 (0, 0)) := by
  have := World.alloc_heap_new (w.alloc (.cells #[.int .i64 k1, .string s1, .slice a1 n1 q1, .slice A1 m1 r1] 25)) (.cells #[.int .i64 0] 3)
  rwa [World.size_alloc] at this
 have HFL := hid (fun W (hn : w.heap.size ≤ W.heap.size) h => fileLines_any d hf hc hdp ha (lim_any hf hl) w.heap.size (.int .i64 k1) (.string s1) (.slice a1 n1 q1) (.slice A1 m1 r1) W hn h)
 have HND := hid (NdC.keep (T := (· < w.heap.size)) (fun b h => ⟨h, h12.block b h⟩) _ hd)
 have H12 := hid h12
 have HBU := hid hbu
 have HSZ : Hid (((w.alloc (.cells #[.int .i64 k1, .string s1, .slice a1 n1 q1, .slice A1 m1 r1] 25)).alloc (.cells #[.int .i64 0] 3)).heap.size = w.heap.size + 2) := hid (by simp)
 have hcount := wrB_count hf
 have HCT := hid hcount
 have HLEN : Hid ((flL d).length ≤ 1000000000) := hid (by
  have := lines_le (flL d)
  rw [wrB_lines hf] at hl
  omega)
 obtain ⟨x0, x1, x2, x3⟩ := (show Row4 _ w.heap.size 25 (.int .i64 k1) (.string s1) (.slice a1 n1 q1) (.slice A1 m1 r1) from below_heap h2 (Row4.make w _ _ _ _ _)).cells
 clear hd h1 h2 h12 hbu hc hdp hf ha hl hcount
 refine (callsIn_wide (n := 1)).1 ?_
 refine callsIn_of_wp_marks Tryz.func10 rfl trivial ?_ rfl
 simp only [Tryz.ntmps10, List.size_toArray, List.length_cons, List.length_nil, Nat.reduceAdd, Nat.reduceSub, Array.replicate_succ, Array.replicate_zero, List.push_toArray, List.append_toArray, List.nil_append, List.cons_append]
 gi_wp2_with fail
 generalize (w.alloc (.cells #[.int .i64 k1, .string s1, .slice a1 n1 q1, .slice A1 m1 r1] 25)).alloc (.cells #[.int .i64 0] 3) = W1 at *
 refine ⟨trivial, callsIn_wide.2 ((HFL.out W1 H12.out.size HND.out).mono ?_)⟩
 rintro e W2 ⟨v, rfl, hb2, gf, lb, rfl, eg, hit⟩
 have hsz2 := hb2.size
 have hlt : w.heap.size + 1 < W1.heap.size := by have := HSZ.out; omega
 have HB2 := hid (below_heap hb2 HBU.out)
 have HL2 := hid (H12.out.trans (hb2.mono H12.out.size))
 clear x0 x1 x2 x3 hb2 HBU
 gi_wp2
 refine wpIn_lines (n0 := w.heap.size) (C := W1.heap.size) (xs := flL d) rfl eg rfl hit HL2.out.size hsz2
  (fun pre X => X.heap[w.heap.size + 1]? = some (.cells #[.int .i64 (pre.length : Int)] 3 (0, 0)) ∧ Below w.heap.size w X ∧ W1.heap.size ≤ X.heap.size)
  (fun s X X' h hT => ⟨hT.same _ _ h.1 (.inl (by omega)), h.2.1.trans (hT.below (by omega) h.2.1.size), Nat.le_trans h.2.2 hT.size⟩)
  ⟨HB2.out, HL2.out, hsz2⟩ ?a1 ?assign ?body ?done
 case assign =>
  intro l x V K hK
  gi_wp2
  exact hK
 case body =>
  rintro l2 pre x X hpre ⟨hbu, hbl, hle⟩
  have hlen : pre.length ≤ 1000000000 := Nat.le_trans (Nat.le_trans (Nat.le_trans (by rw [List.length_append]; exact Nat.le_add_right _ _) (hpre.length_le)) HLEN.out) (Nat.le_refl _)
  have HBU := hid hbu
  have HBL := hid hbl
  have HLE := hid hle
  have c1 := cell_box hbu
  have f1 := frozen_box hbu
  clear hbu hbl hpre hle
  obtain ⟨M, hM⟩ : ∃ M : Int, (pre.length : Int) + 1 = M := ⟨_, rfl⟩
  have hw : IntKind.i64.wrap ((pre.length : Int) + 1) = M := by rw [hM]; exact wrap_small _ (by omega) (by omega)
  have HMM : Hid ((pre.length : Int) + 1 = M) := hid hM
  clear hM
  gi_wp2
  refine ⟨⟨?_, HBL.out.setCell (p := ⟨w.heap.size + 1, 0, none⟩) (Nat.le_succ _) _, by simpa [World.setCell] using HLE.out⟩, .setCell 0 _ (Nat.le_succ _) hlt hlt⟩
  rw [HMM.out]
  exact Go.Boxed.set _ HBU.out
 case done =>
  rintro D X hD ⟨hbu, hbl, hle⟩ hm
  have HBL := hid hbl
  have HM := hid hm
  have c1 := cell_box hbu
  clear hbu hbl hm hle
  dsimp only
  gi_wp2
  refine leaves_marks [D] X (by simp) (fun E hE => by rw [List.mem_singleton.1 hE]; exact HM.out) ⟨_, results_tmp rfl _ _ _, ?_, ?_⟩
  ·show Ending.returned (.int .i64 ((flL d).length : Int)) = _
   rw [HCT.out]
  ·exact HBL.out.trans ((shut_facts (t := T8) (B := w.heap.size) [D] X (fun E hE => by rw [List.mem_singleton.1 hE]; exact ⟨by have := HL2.out.size; omega, _, HM.out, rfl⟩)).below (Nat.le_refl _) HBL.out.size)
end
section
open Go.RowKit Go.Sort
open Nw N8 Q6 F9 B10 E11
theorem RWrite11_any (d : Nd) (hf : N8.Fine d) (ha : allT 100000 d) (hdep : 2 * depT d ≤ 1000) (hL : (wrB d).length ≤ 1000000000) (c0 c1 c2 c3 : Value) (w : World) (hd : NdW w d c0 c1 c2 c3) (q : ByteArray) (hq : wrB d = q.data.toList) :
  Calls Tryz.prog 9 #[.agg #[c0, c1, c2, c3]] w fun e w' => e = .returned (.string q) ∧ Below w.heap.size w w' := by
 have HB := hid (Boxed.make hd)
 have HR := hid (fun W (hs : shrt d = false) (hW : NdW W d c0 c1 c2 c3) (z : ByteArray) (hz : rfR d [] [] = z.data.toList) (hl : (rfR d [] []).length ≤ 1000000000) => RRows_any _ d (Nat.le_refl _) hf hs ha ⟨#[]⟩ ⟨#[]⟩ (by decide) (by show 0 + 2 * depT d ≤ 1000; omega) hl c0 c1 c2 c3 W hW z hz)
 have HZ := hid (fun W (hW : NdW W d c0 c1 c2 c3) (z : ByteArray) (hz : scal d = z.data.toList) => Rscal11_any d hf (Nat.le_trans (text_all ha) (by omega)) z hz c0 c1 c2 c3 W hW)
 obtain ⟨sh, hsh⟩ : ∃ sh, shrt d = sh := ⟨_, rfl⟩
 have HS := hid (fun W (hW : NdW W d c0 c1 c2 c3) => RShort11_any d sh hsh c0 c1 c2 c3 W hW)
 have hw := wrB_rf hf
 have hta := text_all ha
 obtain ⟨k, t, ks, ds⟩ := d
 obtain ⟨⟨h0, h3⟩, -, -, -, -⟩ := fine_in hf
 obtain ⟨rfl, rfl, _, A, cap, rfl, _⟩ := hd.parts
 obtain ⟨T, hT⟩ : ∃ T, ba t = T := ⟨_, rfl⟩
 have hTt : T.data.toList = t := by rw [← hT, ba_data]
 rw [hT] at HB HS HZ HR ⊢
 obtain ⟨n, hn⟩ : ∃ n, ds.length = n := ⟨_, rfl⟩
 rw [hn] at HB HS HZ HR ⊢
 have hw' : wrB (.mk k t ks ds) = if k = 0 then [] else if k = 1 ∧ marker t = true then 34 :: t ++ [34, 10] else if shrt (.mk k t ks ds) then scal (.mk k t ks ds) ++ [10] else rfR (.mk k t ks ds) [] [] := hw
 have hTs : T.size ≤ 100000 := by rw [← len_eq, hTt]; exact hta
 obtain ⟨x0, x1, x2, x3⟩ := HB.out.2.1.cells
 by_cases k0 : k = 0
 ·subst k0
  have HQ : Hid ((⟨#[]⟩ : ByteArray).data.toList = q.data.toList) := hid (by rw [← hq, hw', if_pos rfl])
  clear hd hf hT hTt hq hw hw' hL h0 h3 hn HS HZ HR ha hta hdep hsh
  go_enter Tryz.func9, Tryz.ntmps9
  go_wp2
  go_ret
  exact ⟨str_of HQ.out, HB.out.1⟩
 rw [if_neg k0] at hw'
 have m0 : (k == 0) = false := beq_eq_false_iff_ne.2 k0
 by_cases k1 : k = 1 ∧ marker t = true
 ·rw [if_pos k1] at hw'
  obtain ⟨rfl, hm⟩ := k1
  have HQ : Hid ((⟨#[34]⟩ ++ T ++ ⟨#[34, 10]⟩ : ByteArray).data.toList = q.data.toList) := hid (by rw [← hq, hw', app_list, app_list, hTt]; rfl)
  unfold marker at hm
  rw [Bool.or_eq_true] at hm
  by_cases hm1 : t = [45, 45, 45]
  ·have b1 : (T.toList == [45, 45, 45]) = true := by rw [ByteArray.toList_eq, hTt]; exact beq_iff_eq.2 hm1
   clear hd hf hT hTt hq hw hw' hL h0 h3 hn HS HZ HR ha hta hdep hsh hm hm1
   go_enter Tryz.func9, Tryz.ntmps9
   go_wp2
   go_ret
   exact ⟨str_of HQ.out, HB.out.1⟩
  ·have b1 : (T.toList == [45, 45, 45]) = false := by rw [ByteArray.toList_eq, hTt]; exact beq_eq_false_iff_ne.2 hm1
   have b2 : (T.toList == [46, 46, 46]) = true := by
    rw [ByteArray.toList_eq, hTt]
    rcases hm with hm | hm
    ·exact absurd (of_decide_eq_true hm) hm1
    ·exact beq_iff_eq.2 (of_decide_eq_true hm)
   clear hd hf hT hTt hq hw hw' hL h0 h3 hn HS HZ HR ha hta hdep hsh hm hm1
   go_enter Tryz.func9, Tryz.ntmps9
   go_wp2
   go_ret
   exact ⟨str_of HQ.out, HB.out.1⟩
 rw [if_neg k1] at hw'
 have HS1 := hid (HS.out _ HB.out.2.2)
 cases sh with
 | true =>
  rw [if_pos hsh] at hw'
  obtain ⟨Z, hZ⟩ : ∃ Z, ba (scal (.mk k t ks ds)) = Z := ⟨_, rfl⟩
  have hZl : Z.data.toList = scal (.mk k t ks ds) := by rw [← hZ, ba_data]
  have HZ1 := hid (fun W hW => HZ.out W hW Z hZl.symm)
  have HQ : Hid ((Z ++ ⟨#[10]⟩ : ByteArray).data.toList = q.data.toList) := hid (by rw [← hq, hw', app_list, hZl])
  have hZs : Z.size ≤ 1000000000 := by
   rw [hw', List.length_append] at hL
   rw [← len_eq, hZl]; omega
  by_cases e1 : k = 1
  ·subst e1
   have hmk : marker t = false := by simpa using k1
   unfold marker at hmk
   rw [Bool.or_eq_false_iff] at hmk
   have b1 : (T.toList == [45, 45, 45]) = false := by rw [ByteArray.toList_eq, hTt]; exact beq_eq_false_iff_ne.2 (of_decide_eq_false hmk.1)
   have b2 : (T.toList == [46, 46, 46]) = false := by rw [ByteArray.toList_eq, hTt]; exact beq_eq_false_iff_ne.2 (of_decide_eq_false hmk.2)
   clear hd hf hT hTt hq hw hw' hL h0 h3 hn HS HZ HR ha hta hdep hsh hZ hZl k1 hmk
   go_enter Tryz.func9, Tryz.ntmps9
   go_wp2_with fail
   refine HS1.out.mono ?_
   rintro e w1 ⟨rfl, hb1⟩
   have HB1 := hid (HB.out.go hb1)
   obtain ⟨x0, x1, x2, x3⟩ := HB1.out.2.1.cells
   have HZ2 := hid (HZ1.out w1 HB1.out.2.2)
   clear hb1
   go_wp2_with fail
   refine HZ2.out.mono ?_
   rintro e w2 ⟨rfl, hb2⟩
   go_wp2
   go_ret
   exact ⟨str_of HQ.out, (HB1.out.go hb2).1⟩
  ·have m1 : (k == 1) = false := beq_eq_false_iff_ne.2 e1
   clear hd hf hT hTt hq hw hw' hL h0 h3 hn HS HZ HR ha hta hdep hsh hZ hZl k1
   go_enter Tryz.func9, Tryz.ntmps9
   go_wp2_with fail
   refine HS1.out.mono ?_
   rintro e w1 ⟨rfl, hb1⟩
   have HB1 := hid (HB.out.go hb1)
   obtain ⟨x0, x1, x2, x3⟩ := HB1.out.2.1.cells
   have HZ2 := hid (HZ1.out w1 HB1.out.2.2)
   clear hb1
   go_wp2_with fail
   refine HZ2.out.mono ?_
   rintro e w2 ⟨rfl, hb2⟩
   go_wp2
   go_ret
   exact ⟨str_of HQ.out, (HB1.out.go hb2).1⟩
 | false =>
  rw [if_neg (by rw [hsh]; decide)] at hw'
  have e1 : ¬ k = 1 := by
   rintro rfl
   have h9 : (decide ((1 : Int) < 2) || decide (ds = [])) = false := hsh
   cases h9
  have m1 : (k == 1) = false := beq_eq_false_iff_ne.2 e1
  have HR1 := hid (fun W hW => HR.out W hsh hW q (by rw [← hw', hq]) (by rw [← hw']; exact hL))
  clear hd hf hT hTt hq hw hw' hL h0 h3 hn HS HZ HR ha hta hdep hsh k1
  go_enter Tryz.func9, Tryz.ntmps9
  go_wp2_with fail
  refine HS1.out.mono ?_
  rintro e w1 ⟨rfl, hb1⟩
  have HB1 := hid (HB.out.go hb1)
  obtain ⟨x0, x1, x2, x3⟩ := HB1.out.2.1.cells
  have HR2 := hid (HR1.out w1 HB1.out.2.2)
  clear hb1
  go_wp2_with fail
  refine HR2.out.mono ?_
  rintro e w2 ⟨rfl, hb2⟩
  go_wp2
  go_ret
  exact ⟨rfl, (HB1.out.go hb2).1⟩
end
section
open Go.RowKit Go.Sort
open Nw N8 Q6 F9 B10 E11
theorem all_mono {M M' : Nat} (h : M ≤ M') : ∀ (N : Nat) (d : Nd), cntT d ≤ N → allT M d → allT M' d
 | 0, d, hc, _ => by have := cntT_pos d; omega
 | N + 1, .mk k t ks ds, hc, ha => by
  rw [allT] at ha ⊢
  rw [cntT] at hc
  refine ⟨by omega, fun x hx => Nat.le_trans (ha.2.1 x hx) h, allL_iff.2 fun d hd => all_mono h N d ?_ (allL_iff.1 ha.2.2 d hd)⟩
  have := cntL_in hd
  omega
theorem short_all : ∀ (N : Nat) (d : Nd), cntT d ≤ N → shortT d = true → allT 200 d
 | 0, d, hc, _ => by have := cntT_pos d; omega
 | N + 1, .mk k t ks ds, hc, hs => by
  rw [shortT, Bool.and_eq_true, Bool.and_eq_true] at hs
  rw [allT]
  rw [cntT] at hc
  have hl : ∀ (l : List Nd), cntL l ≤ N → shortL l = true → ∀ d ∈ l, allT 200 d := by
   intro l
   induction l with
   | nil => intro _ _ d h; cases h
   | cons e l ih =>
    intro h1 h2 d hd
    rw [shortL, Bool.and_eq_true] at h2
    rw [cntL] at h1
    rcases List.mem_cons.1 hd with rfl | hd
    ·exact short_all N d (by omega) h2.1
    ·exact ih (by omega) h2.2 d hd
  refine ⟨of_decide_eq_true hs.1.1, fun x hx => ?_, allL_iff.2 (hl ds (by omega) hs.2)⟩
  have := List.all_eq_true.1 hs.1.2 x hx
  exact of_decide_eq_true this
theorem size_of11 {q : ByteArray} {l : L8} (h : q.data.toList = l) : q.size = l.length := by rw [← h, len_eq]
theorem small_parts11 {d : Nd} {most : Int} (h : smallT d most = true) : okT most d = true ∧ shortT d = true := by
 unfold smallT at h
 rw [Bool.and_eq_true] at h
 exact h
theorem split_big (s : ByteArray) (w : World) (hs : (8192 : Int) < (s.size : Int)) :
  Calls Tryz.prog 29 #[.string s] w fun e w' => e = .returned (.tuple #[.slice none 0 0, .int .i64 0, .int .i64 9]) ∧ Below w.heap.size w w' := by
 go_enter Tryz.func29, Tryz.ntmps29
 go_wp2
 go_ret3
 exact ⟨rfl, Below.refl _ _⟩
theorem bparse_big (s : ByteArray) (w : World) (hs : (8192 : Int) < (s.size : Int)) : Calls Tryz.prog 13 #[.string s] w (ParL (nul, 0, 9) w) := by
 have HR0 := hid (Row4.make w 25 (.int .i64 0) (.string ⟨#[]⟩) (.slice none 0 0) (.slice none 0 0))
 have HB0 := hid (below_alloc w (.cells #[.int .i64 0, .string ⟨#[]⟩, .slice none 0 0, .slice none 0 0] 25))
 have HSP := hid (fun W => split_big s W hs)
 clear hs
 generalize hW1 : w.alloc (.cells #[.int .i64 0, .string ⟨#[]⟩, .slice none 0 0, .slice none 0 0] 25) = W1 at *
 go_enter Tryz.func13, Tryz.ntmps13
 go_wp2_with fail
 refine (HSP.out _).mono ?_
 rintro e w2 ⟨rfl, hb⟩
 have HX := hid (HR0.out.below hb HR0.out.lt)
 have HB := hid (HB0.out.trans (hb.mono HB0.out.size))
 clear hb hW1 HR0 HB0
 obtain ⟨r0, r1, r2, r3⟩ := HX.out.cells
 obtain ⟨fr0, fr1, fr2, fr3⟩ := HX.out.frozen
 go_wp2
 refine bodyPost_ret (v := .tuple #[.agg #[.int .i64 0, .string ⟨#[]⟩, .slice none 0 0, .slice none 0 0], .int .i64 0, .int .i64 9]) (by simp [results, Tryz.results13, go_sem, r0, r1, r2, r3]) rfl ?_
 exact parl_ret HB.out (nd_nul _ _) ⟨rfl, rfl, rfl⟩
theorem bparse_all (s : ByteArray) (w : World) (hw : SomeMax w) (P : Nd × Nat × Int) (hP : parB s.data.toList = P) : Calls Tryz.prog 13 #[.string s] w (ParL P w) := by
 by_cases h : s.size ≤ 8192
 ·exact bparse_c s w hw (by omega) P hP
 ·have hl : 8192 < s.data.toList.length := by rw [len_eq]; omega
  rw [par_err (no := 0) (E := 9) (ls := []) (by unfold fileL; rw [if_pos hl]) (by decide)] at hP
  subst hP
  exact bparse_big s w (by omega)
theorem all_exE : allT 1000000 exE := by
 have h := (E11.par_all exS).1
 rw [ex_par11] at h
 exact all_mono (by omega) _ _ (Nat.le_refl _) h
theorem e_awake (w : World) (hw : SomeMax w) : Calls Tryz.prog 7 #[] w fun e w' => e = .returned (.bool true) ∧ Below w.heap.size w w' := by
 obtain ⟨hf, hc, hdp⟩ := (ok_iff (most := 2000)).1 ok_exE
 have hq : wrB exE = (⟨#[97, 58, 10, 32, 32, 45, 32, 120, 10, 32, 32, 45, 32, 98, 58, 32, 121, 10, 32, 32, 32, 32, 99, 58, 32, 110, 117, 108, 108, 10]⟩ : ByteArray).data.toList := ex_wr
 have hl : (wrB exE).length ≤ 1000000000 := by rw [hq]; decide
 have H1 := hid (bparse_all ⟨#[97, 58, 32, 91, 120, 44, 32, 123, 98, 58, 32, 121, 44, 32, 99, 58, 32, 110, 117, 108, 108, 125, 93]⟩ w hw _ ex_par11)
 have HWR := hid (fun c0 c1 c2 c3 W hW => Write_any exE hf hc hdp all_exE hl _ hq c0 c1 c2 c3 W hW)
 have HLN : Hid (∀ c0 c1 c2 c3 W, NdW W exE c0 c1 c2 c3 → Calls Tryz.prog 10 #[.agg #[c0, c1, c2, c3]] W fun e w' => e = .returned (.int .i64 4) ∧ Below W.heap.size W w') := hid (fun c0 c1 c2 c3 W hW => by
  have := Lines_any exE hf hc hdp all_exE hl c0 c1 c2 c3 W hW
  rw [ex_wr, ex_nl] at this
  exact this)
 clear hf hc hdp hq hl hw
 go_enter Tryz.func7, Tryz.ntmps7
 go_wp2_with fail
 refine H1.out.mono ?_
 rintro e w1 ⟨m_k, m_s, m_a, m_n, m_c, m_A, m_m, m_q, rfl, hn, hb⟩
 have hn2 : NdW w1 exE (.int .i64 m_k) (.string m_s) (.slice m_a m_n m_c) (.slice m_A m_m m_q) := hn
 rw [show (((exE, 0, 0) : Nd × Nat × Int).2.1 : Int) = 0 from rfl, show ((exE, 0, 0) : Nd × Nat × Int).2.2 = 0 from rfl]
 have HB := hid (bx_make hn2)
 have HW := hid (b_next hb (al_below w1 (.cells #[.int .i64 m_k, .string m_s, .slice m_a m_n m_c, .slice m_A m_m m_q] 25)))
 clear hn hn2 hb H1
 go_upto_region 2 with fail
 generalize w1.alloc (.cells #[.int .i64 m_k, .string m_s, .slice m_a m_n m_c, .slice m_A m_m m_q] 25) = W1 at *
 generalize w1.heap.size = gm at *
 obtain ⟨b0, b1, b2, b3⟩ := HB.out.1.cells
 go_wp2_with fail
 refine (HWR.out _ _ _ _ _ HB.out.2).mono ?_
 rintro e w2 ⟨rfl, hb⟩
 have HB2 := hid (HB.out.go hb)
 have HW2 := hid (b_next HW.out hb)
 clear b0 b1 b2 b3 hb
 obtain ⟨b0, b1, b2, b3⟩ := HB2.out.1.cells
 go_wp2_with fail
 refine (HLN.out _ _ _ _ _ HB2.out.2).mono ?_
 rintro e w3 ⟨rfl, hb⟩
 have HW3 := hid (b_next HW2.out hb)
 clear b0 b1 b2 b3 hb
 go_wp2
 go_ret
 exact ⟨rfl, HW3.out⟩
end
section
open Go.RowKit Go.Sort
open Nw N8 Q6 F9 B10 E11
theorem EmitWrites_walk (n : Nd) (s : ByteArray) (c0 c1 c2 c3 : Value) (w : World) (hw : SomeMax w) (hn : NdW w n c0 c1 c2 c3) (hs9 : s.size ≤ maxLen) :
  Calls Tryz.prog 3 #[.agg #[c0, c1, c2, c3], .string s] w fun e w' => e = .returned (.bool true) ∧ Below w.heap.size w w' := by
 obtain ⟨n_k, n_s, n_a, n_n, n_c, n_A, n_m, n_q, rfl, rfl, rfl, rfl⟩ := nd_shape hn
 have HBn := hid (bx_make hn)
 have HW := hid (al_below w (.cells #[.int .i64 n_k, .string n_s, .slice n_a n_n n_c, .slice n_A n_m n_q] 25))
 have HSn := hid (fun W r hr hW => RSmall_any n 200 (by decide) (by decide) r hr (.int .i64 n_k) (.string n_s) (.slice n_a n_n n_c) (.slice n_A n_m n_q) W hW)
 have HAW := hid (fun W hW => e_awake W hW)
 have HMX := hid hw
 clear hn hw hs9
 generalize hW0 : w.alloc (.cells #[.int .i64 n_k, .string n_s, .slice n_a n_n n_c, .slice n_A n_m n_q] 25) = W0 at *
 obtain ⟨x0, x1, x2, x3⟩ := HBn.out.1.cells
 cases hs : smallT n 200 with
 | false =>
  go_enter Tryz.func3, Tryz.ntmps3
  go_wp2_with fail
  refine (HSn.out _ false hs HBn.out.2).mono ?_
  rintro e w1 ⟨rfl, hb⟩
  replace HW := hid (b_next HW.out hb)
  clear hb
  go_wp2_with fail
  refine (HAW.out _ (HMX.out.keep HW.out)).mono ?_
  rintro e w2 ⟨rfl, hb⟩
  go_wp2
  go_ret
  exact ⟨rfl, b_next HW.out hb⟩
 | true =>
  by_cases h20 : (2000 : Int) < (s.size : Int)
  ·have g20 : decide ((2000 : Int) < (s.size : Int)) = true := decide_eq_true h20
   go_enter Tryz.func3, Tryz.ntmps3
   go_wp2_with fail
   refine (HSn.out _ true hs HBn.out.2).mono ?_
   rintro e w1 ⟨rfl, hb⟩
   replace HW := hid (b_next HW.out hb)
   clear hb
   go_wp2_with fail
   refine (HAW.out _ (HMX.out.keep HW.out)).mono ?_
   rintro e w2 ⟨rfl, hb⟩
   go_wp2
   go_ret
   exact ⟨rfl, b_next HW.out hb⟩
  ·have g20 : decide ((2000 : Int) < (s.size : Int)) = false := decide_eq_false h20
   obtain ⟨hok, hsh⟩ := small_parts11 hs
   obtain ⟨hf, hc, hdp⟩ := (ok_iff (most := 200)).1 hok
   have hsm := wrB_small hok hsh
   have ha2 := short_all _ n (Nat.le_refl _) hsh
   have hall := all_mono (M' := 1000000) (by omega) _ _ (Nat.le_refl _) ha2
   have hall2 := all_mono (M' := 100000) (by omega) _ _ (Nat.le_refl _) ha2
   obtain ⟨Q, hQ⟩ : ∃ Q : ByteArray, Q.data.toList = wrB n := ⟨ba _, ba_data _⟩
   have hQs : Q.size = (wrB n).length := size_of11 hQ
   have HWR := hid (fun W hW => Write_any n hf (by omega) hdp hall (by omega) Q hQ.symm (.int .i64 n_k) (.string n_s) (.slice n_a n_n n_c) (.slice n_A n_m n_q) W hW)
   have HLI := hid (fun W hW => Lines_any n hf (by omega) hdp hall (by omega) (.int .i64 n_k) (.string n_s) (.slice n_a n_n n_c) (.slice n_A n_m n_q) W hW)
   have HRW := hid (fun W hW => RWrite11_any n hf hall2 (by omega) (by omega) (.int .i64 n_k) (.string n_s) (.slice n_a n_n n_c) (.slice n_A n_m n_q) W hW Q hQ.symm)
   obtain ⟨Z, hZ⟩ : ∃ Z : ByteArray, Z.data.toList = scw s.data.toList := ⟨ba _, ba_data _⟩
   have HSC := hid (fun W => Scalar_any s W (by omega) Z hZ.symm)
   have HRS := hid (fun W => RScalar11_any s W (by omega) Z hZ.symm)
   obtain ⟨L, hL⟩ : ∃ L, nlN (wrB n) = L := ⟨_, rfl⟩
   have HLL : Hid (nlN Q.data.toList = L) := hid (by rw [hQ]; exact hL)
   rw [hL] at HLI
   obtain ⟨m, hm⟩ : ∃ m, Q.size = m := ⟨_, rfl⟩
   have HM := hid hm
   have HML : Hid (m ≤ 328808) := hid (by omega)
   have HQL : Hid (Q.data.toList.length = m) := hid (by rw [len_eq, hm])
   clear hok hsh hf hc hdp hsm hall hall2 ha2 hQ hQs hZ hL h20
   go_enter Tryz.func3, Tryz.ntmps3
   go_wp2_with fail
   refine (HSn.out _ true hs HBn.out.2).mono ?_
   rintro e w1 ⟨rfl, hb⟩
   have HB1 := hid (HBn.out.go hb)
   replace HW := hid (b_next HW.out hb)
   clear hb HSn HBn x0 x1 x2 x3 hW0
   obtain ⟨x0, x1, x2, x3⟩ := HB1.out.1.cells
   go_wp2_with fail
   refine (HWR.out _ HB1.out.2).mono ?_
   rintro e w2 ⟨rfl, hb⟩
   have HB2 := hid (HB1.out.go hb)
   replace HW := hid (b_next HW.out hb)
   clear hb HWR HB1 x0 x1 x2 x3
   go_wp2
   go_loopw [6, 7] (fun s6 s7 wr => ∃ (i k : Nat), i ≤ m ∧ k ≤ m ∧ s7 = .int .i64 (i : Int) ∧ s6 = .int .i64 (k : Int) ∧ wr = w2 ∧ Hid (k = nlN (Q.data.toList.take i))) (fun _ s7 _ => m - (intOf s7).toNat)
   case atStart => exact ⟨0, 0, Nat.zero_le _, Nat.zero_le _, rfl, rfl, rfl, hid rfl⟩
   case round =>
    obtain ⟨i, k, hi, hk, rfl, rfl, rfl, HK⟩ := hrel
    by_cases hlt : i < m
    ·have hiz : (i : Int) < (m : Int) := by omega
     have hiq : i < Q.size := by rw [HM.out]; exact hlt
     have HST := hid (nl_step (l := Q.data.toList) (k := i) (by rw [HQL.out]; exact hlt))
     have HG : Hid (Q.data.toList.getD i 0 = Q[i]'hiq) := hid (by rw [List.getD_eq_getElem?_getD, Lib.data_getElem? Q i hiq]; rfl)
     obtain ⟨x, hx⟩ : ∃ x, Q[i]'hiq = x := ⟨_, rfl⟩
     rw [hx] at HG
     have hw1 : IntKind.i64.wrap ((i : Int) + 1) = (i : Int) + 1 := wrap_small _ (by omega) (by have := HML.out; omega)
     have hw2 : IntKind.i64.wrap ((k : Int) + 1) = (k : Int) + 1 := wrap_small _ (by omega) (by have := HML.out; omega)
     by_cases h10 : x = 10
     ·subst h10
      have g10 : (Q[i]'hiq).toNat = 10 := by rw [hx]; rfl
      have HKN : Hid (k + 1 = nlN (Q.data.toList.take (i + 1))) := hid (by rw [HST.out, HG.out, if_pos rfl, ← HK.out])
      clear hx
      have hkm : Hid (k + 1 ≤ m) := hid (by
       rw [HKN.out]
       refine Nat.le_trans (nl_le _) ?_
       rw [List.length_take, HQL.out]
       omega)
      go_wp2
      go_roundw
      case measure => simp [intOf]; omega
      case rel => exact ⟨i + 1, k + 1, by omega, hkm.out, by go_num, by go_num, by first | rfl | trivial, HKN⟩
     ·have g10 : (((Q[i]'hiq).toNat : Int) == 10) = false := beq_eq_false_iff_ne.2 (by
       rw [hx]; intro e; exact h10 (UInt8.toNat_inj.1 (by have : (10 : UInt8).toNat = 10 := rfl; omega)))
      have HKN : Hid (k = nlN (Q.data.toList.take (i + 1))) := hid (by rw [HST.out, HG.out, if_neg h10, ← HK.out]; rfl)
      clear hx
      go_wp2
      go_roundw
      case measure => simp [intOf]; omega
      case rel => exact ⟨i + 1, k, by omega, hk, by go_num, by first | rfl | trivial, by first | rfl | trivial, HKN⟩
    ·obtain rfl : i = m := by omega
     have HKL : Hid (k = L) := hid (by rw [HK.out, List.take_of_length_le (by rw [HQL.out]; exact Nat.le_refl _), HLL.out])
     obtain ⟨x0, x1, x2, x3⟩ := HB2.out.1.cells
     go_wp2_with fail
     refine (HRW.out _ HB2.out.2).mono ?_
     rintro e w3 ⟨rfl, hb⟩
     have HB3 := hid (HB2.out.go hb)
     have HW3 := hid (b_next HW.out hb)
     clear hb x0 x1 x2 x3
     obtain ⟨x0, x1, x2, x3⟩ := HB3.out.1.cells
     go_wp2_with fail
     refine (HLI.out _ HB3.out.2).mono ?_
     rintro e w4 ⟨rfl, hb⟩
     have HW4 := hid (b_next HW3.out hb)
     clear hb x0 x1 x2 x3
     have hkl := HKL.out
     subst hkl
     go_wp2_with fail
     refine (HSC.out _).mono ?_
     rintro e w5 ⟨rfl, hb⟩
     have HW5 := hid (b_next HW4.out hb)
     clear hb
     go_wp2_with fail
     refine (HRS.out _).mono ?_
     rintro e w6 ⟨rfl, hb⟩
     have HW6 := hid (b_next HW5.out hb)
     clear hb
     go_wp2_with fail
     refine (HAW.out _ (HMX.out.keep HW6.out)).mono ?_
     rintro e w7 ⟨rfl, hb⟩
     go_wp2
     go_ret
     exact ⟨rfl, b_next HW6.out hb⟩
end
end Go.Proofs.YtmdgpejedbkkdaaGreatDoor
