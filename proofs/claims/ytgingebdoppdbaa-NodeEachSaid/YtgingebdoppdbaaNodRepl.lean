/- The contract of the program's replaced, with NodeEach's closure. -/
import Derived.Test.YtgingebdoppdbaaNodClo
namespace Go.Proofs.Ytgingebdoppdbaa
open Go.RowKit Go.Sort
open Nw N8 Go.ChangeShapes Go.WideShapes
set_option linter.unusedVariables false
namespace N8
mutual
/-- Each text with e behind it. -/
def mapT (e : L8) : Nd → Nd
  | .mk k t ks ds => if k = 1 then .mk 1 (t ++ e) [] [] else .mk k [] ks (mapL e ds)
def mapL (e : L8) : List Nd → List Nd
  | [] => []
  | d :: ds => mapT e d :: mapL e ds
end
theorem mapL_len (e : L8) : ∀ ds : List Nd, (mapL e ds).length = ds.length
  | [] => rfl
  | d :: ds => by rw [mapL, List.length_cons, List.length_cons, mapL_len e ds]
theorem mapL_at (e : L8) : ∀ (ds : List Nd) (j : Nat) (h : j < ds.length) (g : j < (mapL e ds).length), (mapL e ds)[j]'g = mapT e (ds[j]'h)
  | d :: ds, 0, _, _ => rfl
  | d :: ds, j + 1, h, g => mapL_at e ds j (Nat.lt_of_succ_lt_succ h) (by rw [mapL, List.length_cons] at g; omega)
theorem textsL_split {ds : List Nd} {j : Nat} (h : j < ds.length) : textsL ds = textsL (ds.take j) ++ (textsT (ds[j]'h) ++ textsL (ds.drop (j + 1))) := by
  have key : ∀ (a b : List Nd), textsL (a ++ b) = textsL a ++ textsL b := by
    intro a
    induction a with
    | nil => intro b; rw [List.nil_append, textsL, List.nil_append]
    | cons d a ih => intro b; rw [List.cons_append, textsL, textsL, ih, List.append_assoc]
  have h1 := key (ds.take j) (ds.drop j)
  rw [List.take_append_drop, List.drop_eq_getElem_cons h, textsL] at h1
  exact h1
/-- The row of kids while it is turned. -/
def half (e : L8) (ds : List Nd) (j : Nat) : List Nd := (mapL e ds).take j ++ ds.drop j
theorem half_zero (e : L8) (ds : List Nd) : half e ds 0 = ds := rfl
theorem half_all (e : L8) (ds : List Nd) : half e ds ds.length = mapL e ds := by
  unfold half
  rw [List.drop_length, List.append_nil, List.take_of_length_le (by rw [mapL_len]; exact Nat.le_refl _)]
theorem half_len (e : L8) (ds : List Nd) (j : Nat) (h : j ≤ ds.length) : (half e ds j).length = ds.length := by
  unfold half
  rw [List.length_append, List.length_take, List.length_drop, mapL_len]; omega
theorem half_set (e : L8) (ds : List Nd) (j : Nat) (h : j < ds.length) : (half e ds j).set j (mapT e (ds[j]'h)) = half e ds (j + 1) := by
  unfold half
  have hl : ((mapL e ds).take j).length = j := by rw [List.length_take, mapL_len]; omega
  rw [List.set_append_right _ _ (by rw [hl]; exact Nat.le_refl _), hl, Nat.sub_self, List.drop_eq_getElem_cons h, List.set_cons_zero, List.take_succ_eq_append_getElem (by rw [mapL_len]; exact h), mapL_at e ds j h, List.append_assoc]
  rfl
end N8
/-- Old blocks that are not the counter's. -/
def Old (S : Nat → Prop) (g : Nat) (w : World) : Prop := ∀ b, S b → b < w.heap.size ∧ b ≠ g
/-- Blocks of S, or made since. -/
def New (S : Nat → Prop) (w w' : World) (b : Nat) : Prop := S b ∨ (w.heap.size ≤ b ∧ b < w'.heap.size)
theorem Old.go {S : Nat → Prop} {g : Nat} {w w' : World} (h : Old S g w) (hs : w.heap.size ≤ w'.heap.size) : Old S g w' := fun b hb => ⟨Nat.lt_of_lt_of_le (h b hb).1 hs, (h b hb).2⟩
theorem gb_below {w W W' : World} {g : Nat} (h : w.grownBy W (some g)) (hb : Below w.heap.size W W') : w.grownBy W' (some g) :=
  ⟨hb.os.trans h.os, hb.tape.trans h.tape, hb.output.trans h.output, Nat.le_trans h.size hb.size, fun k hk hne => (hb.block k hk).trans (h.block k hk hne)⟩
theorem gb_refl (w : World) (row : Option Nat) : w.grownBy w row := ⟨rfl, rfl, rfl, Nat.le_refl _, fun _ _ _ => rfl⟩
theorem gb_of {w W : World} {g : Nat} (h : Below w.heap.size w W) : w.grownBy W (some g) := gb_below (gb_refl w _) h
/-- The two boxes of replaced, and its node. -/
def RX (S : Nat → Prop) (g : Nat) (w W : World) (d : Nd) (c0 c1 c2 c3 : Value) : Prop :=
  Old S g w ∧ w.grownBy W (some g) ∧ Row4 W w.heap.size 25 c0 c1 c2 c3 ∧ Row4 W (w.heap.size + 1) 25 (.int .i64 0) (.string ⟨#[]⟩) (.slice none 0 0) (.slice none 0 0) ∧ NdC S W d c0 c1 c2 c3
section
variable {S : Nat → Prop} {g : Nat} {w W W' : World} {d : Nd} {c0 c1 c2 c3 : Value}
theorem RX.size (h : RX S g w W d c0 c1 c2 c3) : w.heap.size + 2 ≤ W.heap.size := h.2.2.2.1.lt
theorem RX.go (hg : g < w.heap.size) (h : RX S g w W d c0 c1 c2 c3) (hx : W.grownBy W' (some g)) : RX S g w W' d c0 c1 c2 c3 := by
  have hs := h.size
  have hk : ∀ b, b < w.heap.size + 2 → b ≠ g → W'.heap[b]? = W.heap[b]? := fun b hb hn => hx.block b (by omega) fun e => hn (by injection e)
  refine ⟨h.1, h.2.1.trans hx, (hk _ (by omega) (by omega)).trans h.2.2.1, (hk _ (by omega) (by omega)).trans h.2.2.2.1, NdC.keep (fun b hb => ⟨hb, hk b ?_ (h.1 b hb).2⟩) d h.2.2.2.2⟩
  have := (h.1 b hb).1
  omega
theorem RX.far (h : RX S g w W d c0 c1 c2 c3) (hb : Below (w.heap.size + 2) W W') : RX S g w W' d c0 c1 c2 c3 := by
  refine ⟨h.1, gb_below h.2.1 (hb.mono (by omega)), (hb.block _ (by omega)).trans h.2.2.1, (hb.block _ (by omega)).trans h.2.2.2.1, NdC.keep (fun b hs => ⟨hs, hb.block b ?_⟩) d h.2.2.2.2⟩
  have := (h.1 b hs).1
  omega
theorem RX.make (hS : Old S g w) (h : NdC S w d c0 c1 c2 c3) : RX S g w ((w.alloc (.cells #[c0, c1, c2, c3] 25)).alloc (.cells #[.int .i64 0, .string ⟨#[]⟩, .slice none 0 0, .slice none 0 0] 25)) d c0 c1 c2 c3 := by
  have h2 := Boxed2.make (h.all fun b hb => (hS b hb).1) (show NdW w nul (.int .i64 0) (.string ⟨#[]⟩) (.slice none 0 0) (.slice none 0 0) from nd_nul _ w)
  exact ⟨hS, gb_of h2.1, h2.2.1, h2.2.2.1, NdC.keep (fun b hb => ⟨hb, h2.1.block b (hS b hb).1⟩) d h⟩
end
section
variable {g gl gb gm : Nat} {lv : Value} {L : List L8} {bad more : ByteArray} {w W W' : World} {c c' : Nat}
/-- What lies in old blocks is kept where only new blocks turn. -/
theorem CS.far (h0 : CS g gl gb gm lv L bad more w c) (h : CS g gl gb gm lv L bad more W c') (hb : Below w.heap.size W W') : CS g gl gb gm lv L bad more W' c' := by
  obtain ⟨a1, a2, a3, a4, a5, a6, a7, a8, a9⟩ := h0
  obtain ⟨b1, b2, b3, b4, b5, b6, b7, b8, b9⟩ := h
  have hg : g < w.heap.size := by
    rcases Nat.lt_or_ge g w.heap.size with h1 | h1
    · exact h1
    · rw [Array.getElem?_eq_none h1] at a1; cases a1
  refine ⟨(hb.block g hg).trans b1, (hb.cell (p := ⟨gl, 0, none⟩) (cell_lt a2)).trans b2, ?_, (hb.cell (p := ⟨gb, 0, none⟩) (cell_lt a4)).trans b4, (hb.cell (p := ⟨gm, 0, none⟩) (cell_lt a5)).trans b5, b6, b7, b8, b9⟩
  obtain ⟨a, cap, hv, r1, r2, r3⟩ := b3
  obtain ⟨a', cap', hv', _, _, r3'⟩ := a3
  refine ⟨a, cap, hv, r1, r2, ?_⟩
  rcases r3 with r3 | ⟨b, o, hA, r4, r5⟩
  · exact .inl r3
  · rcases r3' with ⟨r3', _⟩ | ⟨b', o', hA', r4', r5'⟩
    · exact .inr ⟨b, o, hA, Nat.lt_of_lt_of_le r4 hb.size, fun j hj => by rw [r3'] at hj; cases hj⟩
    · have hbb : b = b' := by
        rw [hv] at hv'
        injection hv' with e1 _ _
        rw [hA, hA'] at e1
        injection e1 with e1
        injection e1
      exact .inr ⟨b, o, hA, Nat.lt_of_lt_of_le r4 hb.size, fun j hj => (hb.cell (p := ⟨b, o + j, none⟩) (by rw [hbb]; exact r4')).trans (r5 j hj)⟩
end
theorem ndx_text (S : Nat → Prop) (w : World) (s : ByteArray) : NdC S w (.mk 1 s.data.toList [] []) (.int .i64 1) (.string s) (.slice none 0 0) (.slice none 0 0) := by
  rw [NdC]
  refine ⟨rfl, by rw [ba_of], ⟨none, 0, rfl, Nat.zero_le _, Nat.zero_le _, .inl ⟨rfl, fun _ => rfl⟩⟩, none, 0, rfl, Nat.zero_le _, Nat.zero_le _, fun _ => rfl, ?_⟩
  rw [NdK]; trivial
/-- What replaced answers at a node. -/
def RepA (S : Nat → Prop) (g gl gb gm : Nat) (lv : Value) (L : List L8) (bad more : ByteArray) (d : Nd) (c : Nat) (w : World) (e : Ending) (w' : World) : Prop :=
  w.grownBy w' (some g) ∧
    ((bad.data.toList ∉ textsT d ∧ (∃ c0 c1 c2 c3, e = .returned (.tuple #[.agg #[c0, c1, c2, c3], .int .i64 0]) ∧ NdC (New S w w') w' (mapT more.data.toList d) c0 c1 c2 c3) ∧ CS g gl gb gm lv L bad more w' (c + (textsT d).length)) ∨
     (∃ pre post, textsT d = pre ++ bad.data.toList :: post ∧ bad.data.toList ∉ pre ∧ e = .returned (.tuple #[.agg #[.int .i64 0, .string ⟨#[]⟩, .slice none 0 0, .slice none 0 0], .int .i64 4]) ∧ CS g gl gb gm lv L bad more w' (c + pre.length + 1)))
def RepOf (S : Nat → Prop) (g gl gb gm : Nat) (lv : Value) (L : List L8) (bad more : ByteArray) (N : Nat) : Prop :=
  ∀ (d : Nd), cntT d ≤ N → Fine d → shortT d = true → cntT d ≤ 100000 → ∀ (c : Nat) (rest : List L8), L.drop c = textsT d ++ rest → ∀ (c0 c1 c2 c3 : Value) (w : World), Old S g w → NdC S w d c0 c1 c2 c3 → CS g gl gb gm lv L bad more w c →
    Calls Try.prog 46 #[.agg #[c0, c1, c2, c3], .func (.func 26) #[] #[.pointer (some ⟨g, 0, none⟩), .pointer (some ⟨gl, 0, none⟩), .pointer (some ⟨gb, 0, none⟩), .pointer (some ⟨gm, 0, none⟩)]] w (RepA S g gl gb gm lv L bad more d c w)
set_option maxRecDepth 100000 in
set_option maxHeartbeats 8000000 in
theorem repl_text (S : Nat → Prop) (g gl gb gm : Nat) (lv : Value) (L : List L8) (bad more : ByteArray) (hL : L.length ≤ 100000) (hm : more.size ≤ 200) (t : L8) (ks : List L8) (ds : List Nd) (hf : Fine (.mk 1 t ks ds)) (hs : t.length ≤ 200) (c : Nat) (rest : List L8) (hd9 : L.drop c = textsT (.mk 1 t ks ds) ++ rest) (c0 c1 c2 c3 : Value) (w : World) (hS : Old S g w) (hd : NdC S w (.mk 1 t ks ds) c0 c1 c2 c3) (hC : CS g gl gb gm lv L bad more w c) :
    Calls Try.prog 46 #[.agg #[c0, c1, c2, c3], .func (.func 26) #[] #[.pointer (some ⟨g, 0, none⟩), .pointer (some ⟨gl, 0, none⟩), .pointer (some ⟨gb, 0, none⟩), .pointer (some ⟨gm, 0, none⟩)]] w (RepA S g gl gb gm lv L bad more (.mk 1 t ks ds) c w) := by
  have eg : ∀ args w, (callFunc 26 args).run Try.prog w = .ok (.enter 26 args) w := enters_of Try.func26 (by kernel_rfl) rfl
  have hglt := hC.lt
  have hR := RX.make hS hd
  have hdA := hd.all fun b hb => (hS b hb).1
  obtain ⟨h1, h2⟩ : ks = [] ∧ ds = [] := by
    cases hf with
    | mk h0 h3 hf hk hdd => unfold formB at hf; simp at hf; exact hf
  subst h1; subst h2
  have htx : textsT (.mk 1 t [] []) = [t] := by rw [textsT, if_pos rfl, textsL]; rfl
  rw [htx] at hd9
  have hcl : c < L.length := by
    rcases Nat.lt_or_ge c L.length with h | h
    · exact h
    · rw [List.drop_of_length_le h] at hd9; cases hd9
  have hLc : L[c]'hcl = t := by
    rw [List.drop_eq_getElem_cons hcl] at hd9
    injection hd9
  obtain ⟨rfl, rfl, -, A, cap, rfl, -⟩ := hdA.parts
  obtain ⟨k9, s9, a, n, c9, A9, m9, q9, -, -, rfl, h99⟩ := hdA.shape
  obtain ⟨T, hT⟩ : ∃ T, ba t = T := ⟨_, rfl⟩
  have hTt : T.data.toList = t := by rw [← hT, ba_data]
  have hTs : T.size ≤ 200 := by rw [← hT, ba_size]; exact hs
  rw [hT] at hR hd ⊢
  simp only [List.length_nil] at hR hd ⊢
  have hal : Below w.heap.size w ((w.alloc (.cells #[.int .i64 1, .string T, .slice a n c9, .slice A 0 cap] 25)).alloc (.cells #[.int .i64 0, .string ⟨#[]⟩, .slice none 0 0, .slice none 0 0] 25)) := ((Below.refl _ _).alloc (Nat.le_refl _) _).alloc (by simp) _
  have HR := Lib.hid hR
  have HC0 := Lib.hid hC
  have HC1 := Lib.hid (hC.below hal)
  have HCL := Lib.hid (fun r hr => closure_any g gl gb gm lv L bad more T _ c HC1.out hcl (by rw [hLc, hTt]) hL hTs hm r hr)
  have HTT := Lib.hid hTt
  have HTX := Lib.hid htx
  have HGL := Lib.hid hglt
  clear hd hdA hS hC hR hT hLc hd9 htx hf hal hs hcl hL hm hTs hglt
  obtain ⟨x0, x1, x2, x3⟩ := HR.out.2.2.1.cells
  by_cases hb : T.data.toList = bad.data.toList
  · have hcl := HCL.out true (decide_eq_true hb)
    have HB := Lib.hid hb
    rw [if_pos rfl, if_pos rfl] at hcl
    clear hb HCL
    go_enter Try.func46, Try.ntmps46
    go_wp2_with (go_at_fn 26; refine hcl.mono ?_; rintro e w2 ⟨rfl, hcs, hgr⟩; have HCS := Lib.hid hcs; have HR2 := Lib.hid (HR.out.go HGL.out hgr); obtain ⟨z0, z1, z2, z3⟩ := HR2.out.2.2.2.1.cells; obtain ⟨f0, f1, f2, f3⟩ := HR2.out.2.2.2.1.frozen; clear hcs hgr)
    have hbb : Below w.heap.size w2 (put4 w2 (w.heap.size + 1) (.int .i64 0) (.string ⟨#[]⟩) (.slice none 0 0) (.slice none 0 0)) := below_put4 (Below.refl _ _) (by omega) _ _ _ _
    refine bodyPost_ret (v := .tuple #[.agg #[.int .i64 0, .string ⟨#[]⟩, .slice none 0 0, .slice none 0 0], .int .i64 4]) (by simp [results, Try.results46, go_sem, z0, z1, z2, z3]) rfl ⟨gb_below HR2.out.2.1 hbb, .inr ⟨[], [], by rw [HTX.out, ← HB.out, HTT.out]; rfl, by simp, rfl, HC0.out.far HCS.out hbb⟩⟩
  · have hcl := HCL.out false (decide_eq_false hb)
    have HB := Lib.hid hb
    simp only [Bool.false_eq_true, if_false] at hcl
    clear hb HCL
    go_enter Try.func46, Try.ntmps46
    go_wp2_with (first | (go_at_fn 26; refine hcl.mono ?_; rintro e w2 ⟨rfl, hcs, hgr⟩; have HCS := Lib.hid hcs; have HR2 := Lib.hid (HR.out.go HGL.out hgr); clear hcs hgr) | (go_at_call 32; refine (Text_any _ _).mono ?_; rintro e w3 ⟨rfl, hb3⟩; have HCS3 := Lib.hid (HCS.out.below hb3); have HR3 := Lib.hid (HR2.out.far (hb3.mono HR2.out.size)); obtain ⟨z0, z1, z2, z3⟩ := HR3.out.2.2.2.1.cells; obtain ⟨f0, f1, f2, f3⟩ := HR3.out.2.2.2.1.frozen; clear hb3))
    have hbb : Below w.heap.size w3 (put4 w3 (w.heap.size + 1) (.int .i64 1) (.string (T ++ more)) (.slice none 0 0) (.slice none 0 0)) := below_put4 (Below.refl _ _) (by omega) _ _ _ _
    have hmt : mapT more.data.toList (.mk 1 t [] []) = .mk 1 (T ++ more).data.toList [] [] := by
      rw [mapT, if_pos rfl, ← HTT.out]
      congr 1
    refine bodyPost_ret (v := .tuple #[.agg #[.int .i64 1, .string (T ++ more), .slice none 0 0, .slice none 0 0], .int .i64 0]) (by simp [results, Try.results46, go_sem, z0, z1, z2, z3]) rfl ⟨gb_below HR3.out.2.1 hbb, .inl ⟨by rw [HTX.out, List.mem_singleton]; intro h; exact HB.out (by rw [HTT.out, h]), ⟨_, _, _, _, rfl, ?_⟩, by rw [HTX.out]; exact HC0.out.far HCS3.out hbb⟩⟩
    rw [hmt]
    exact ndx_text _ _ _
end Go.Proofs.Ytgingebdoppdbaa
