/- The contract of the document's own At. -/
import Derived.Test.YtgingebdoppdbaaNodCount
import Derived.Deep.RegionHeld3
import Derived.Lib.BufferMore
import Derived.Deep.RegionWith
namespace Go.Proofs.Ytgingebdoppdbaa
open Go.RowKit Go.Sort
open Nw N8
open Dg
set_option linter.unusedVariables false
namespace N8
/-- One step of a path. -/
def hopT (d : Nd) (x : L8) : Option Nd :=
  if d.kind = 2 then (if countE x 100000 = 0 ∧ countN x 100000 < (d.kids.length : Int) then d.kids[(countN x 100000).toNat]? else none) else getT d x
/-- What stands at a path. -/
def atT : Nd → List L8 → Option Nd
  | d, [] => some d
  | d, x :: l => match hopT d x with
    | none => none
    | some e => atT e l
theorem getK_mem : ∀ {ks : List L8} {ds : List Nd} {x : L8} {e : Nd}, getK ks ds x = some e → e ∈ ds
  | [], _, _, _, h => by rw [getK] at h; cases h; intros; contradiction
  | _ :: _, [], _, _, h => by rw [getK] at h; cases h; intros; contradiction
  | k :: ks, d :: ds, x, e, h => by
    rw [getK] at h
    by_cases hk : k = x
    · rw [if_pos hk] at h; injection h with h; subst h; exact List.mem_cons_self ..
    · rw [if_neg hk] at h; exact List.mem_cons_of_mem _ (getK_mem h)
theorem fine_kid {d e : Nd} (h : Fine d) (he : e ∈ d.kids) : Fine e := by
  cases h with
  | mk h0 h3 hf hk hd => exact hd e he
theorem step_mem {d e : Nd} {x : L8} (h : hopT d x = some e) : e ∈ d.kids := by
  unfold hopT at h
  split at h
  · split at h
    · exact List.mem_of_getElem? h
    · cases h
  · unfold getT at h
    split at h
    · exact getK_mem h
    · cases h
theorem fine_keys {d : Nd} (h : Fine d) : d.kind = 3 → d.keys.length = d.kids.length := by
  cases h with
  | mk h0 h3 hf hk hd => exact fun e => (hk e).1
theorem at_none {d : Nd} {l : List L8} {i : Nat} (h : i < l.length) (hs : hopT d (l[i]'h) = none) : atT d (l.drop i) = none := by
  rw [List.drop_eq_getElem_cons h, atT, hs]
theorem at_some {d e : Nd} {l : List L8} {i : Nat} (h : i < l.length) (hs : hopT d (l[i]'h) = some e) : atT d (l.drop i) = atT e (l.drop (i + 1)) := by
  rw [List.drop_eq_getElem_cons h, atT, hs]
theorem count_nonneg (l : L8) (most : Int) : 0 ≤ countN l most := by
  unfold countN valN
  split
  · exact Int.le_refl _
  · split
    · split
      · exact Int.natCast_nonneg _
      · exact Int.le_refl _
    · exact Int.le_refl _
theorem hop_list {d : Nd} {x : L8} (hk : d.kind = 2) (he : countE x 100000 = 0) {j : Nat} (hj : countN x 100000 = (j : Int)) (h : j < d.kids.length) : hopT d x = some (d.kids[j]'h) := by
  rw [hopT, if_pos hk, if_pos ⟨he, by rw [hj]; omega⟩, hj, Int.toNat_natCast, List.getElem?_eq_getElem h]
theorem hop_out {d : Nd} {x : L8} (hk : d.kind = 2) (h : ¬ (countE x 100000 = 0 ∧ countN x 100000 < (d.kids.length : Int))) : hopT d x = none := by
  rw [hopT, if_pos hk, if_neg h]
end N8
/-- A whole box is stored anew. -/
def put4 (w : World) (g : Nat) (a b c d : Value) : World := (((w.setCell ⟨g, 0, none⟩ a).setCell ⟨g, 1, none⟩ b).setCell ⟨g, 2, none⟩ c).setCell ⟨g, 3, none⟩ d
theorem Row4.put {w : World} {g : Nat} {t : TypeId} {a b c d : Value} (h : Row4 w g t a b c d) (a' b' c' d' : Value) : Row4 (put4 w g a' b' c' d') g t a' b' c' d' :=
  Lib.heap_setCell_same (i := 3) (Lib.heap_setCell_same (i := 2) (Lib.heap_setCell_same (i := 1) (Lib.heap_setCell_same (i := 0) h a') b') c') d'
theorem Row4.oth {w : World} {g g' : Nat} {t : TypeId} {a b c d : Value} (h : Row4 w g t a b c d) (hne : g ≠ g') (a' b' c' d' : Value) : Row4 (put4 w g' a' b' c' d') g t a b c d := by
  unfold Row4 put4
  rw [Below.heap_setCell _ _ _ _ hne, Below.heap_setCell _ _ _ _ hne, Below.heap_setCell _ _ _ _ hne, Below.heap_setCell _ _ _ _ hne]
  exact h
theorem below_put4 {B : Nat} {w w' : World} {g : Nat} (h : Below B w w') (hg : B ≤ g) (a b c d : Value) : Below B w (put4 w' g a b c d) :=
  (((h.setCell (p := ⟨g, 0, none⟩) hg a).setCell (p := ⟨g, 1, none⟩) hg b).setCell (p := ⟨g, 2, none⟩) hg c).setCell (p := ⟨g, 3, none⟩) hg d
/-- The two boxes of At, and the node that it stands at; its blocks lie below. -/
def AtB (w W : World) (d : Nd) (c0 c1 c2 c3 : Value) : Prop :=
  Below w.heap.size w W ∧ Row4 W w.heap.size 25 c0 c1 c2 c3 ∧ Row4 W (w.heap.size + 1) 25 (.int .i64 0) (.string ⟨#[]⟩) (.slice none 0 0) (.slice none 0 0) ∧ NdC (· < w.heap.size) W d c0 c1 c2 c3
theorem AtB.go {w W W' : World} {d : Nd} {c0 c1 c2 c3 : Value} (h : AtB w W d c0 c1 c2 c3) (hb : Below W.heap.size W W') : AtB w W' d c0 c1 c2 c3 :=
  ⟨h.1.trans (hb.mono h.1.size), h.2.1.below hb h.2.1.lt, h.2.2.1.below hb h.2.2.1.lt, NdC.keep (fun b hlt => ⟨hlt, hb.block b (Nat.lt_of_lt_of_le hlt h.1.size)⟩) d h.2.2.2⟩
theorem AtB.make {w : World} {d : Nd} {c0 c1 c2 c3 : Value} (h : NdW w d c0 c1 c2 c3) :
    AtB w ((w.alloc (.cells #[c0, c1, c2, c3] 25)).alloc (.cells #[.int .i64 0, .string ⟨#[]⟩, .slice none 0 0, .slice none 0 0] 25)) d c0 c1 c2 c3 := by
  have h2 := Boxed2.make h (show NdW w nul (.int .i64 0) (.string ⟨#[]⟩) (.slice none 0 0) (.slice none 0 0) from nd_nul _ w)
  exact ⟨h2.1, h2.2.1, h2.2.2.1, NdC.keep (fun b hlt => ⟨hlt, h2.1.block b hlt⟩) d h⟩
theorem AtB.small {w W : World} {d : Nd} {c0 c1 c2 c3 : Value} (h : AtB w W d c0 c1 c2 c3) : ∀ b, b < w.heap.size → b < W.heap.size := fun b hb => Nat.lt_of_lt_of_le hb h.1.size
theorem AtB.oth {w W : World} {d : Nd} {c0 c1 c2 c3 : Value} {g : Nat} (h : AtB w W d c0 c1 c2 c3) (hg : w.heap.size + 2 ≤ g) (a' b' c' d' : Value) : AtB w (put4 W g a' b' c' d') d c0 c1 c2 c3 := by
  have hbl : ∀ b, b < w.heap.size → (put4 W g a' b' c' d').heap[b]? = W.heap[b]? := by
    intro b hb
    unfold put4
    rw [Below.heap_setCell _ _ _ _ (by show b ≠ g; omega), Below.heap_setCell _ _ _ _ (by show b ≠ g; omega), Below.heap_setCell _ _ _ _ (by show b ≠ g; omega), Below.heap_setCell _ _ _ _ (by show b ≠ g; omega)]
  exact ⟨below_put4 h.1 (by omega) _ _ _ _, h.2.1.oth (by omega) _ _ _ _, h.2.2.1.oth (by omega) _ _ _ _, NdC.keep (fun b hlt => ⟨hlt, hbl b hlt⟩) d h.2.2.2⟩
/-- The walk goes on at a node whose cells were stored into the first box. -/
theorem AtB.next {w W : World} {d e : Nd} {c0 c1 c2 c3 u0 u1 u2 u3 : Value} (h : AtB w W d c0 c1 c2 c3) (he : NdC (· < w.heap.size) W e u0 u1 u2 u3) : AtB w (put4 W w.heap.size u0 u1 u2 u3) e u0 u1 u2 u3 := by
  have hbl : ∀ b, b < w.heap.size → (put4 W w.heap.size u0 u1 u2 u3).heap[b]? = W.heap[b]? := by
    intro b hb
    unfold put4
    rw [Below.heap_setCell _ _ _ _ (by show b ≠ w.heap.size; omega), Below.heap_setCell _ _ _ _ (by show b ≠ w.heap.size; omega), Below.heap_setCell _ _ _ _ (by show b ≠ w.heap.size; omega), Below.heap_setCell _ _ _ _ (by show b ≠ w.heap.size; omega)]
  exact ⟨below_put4 h.1 (Nat.le_refl _) _ _ _ _, h.2.1.put _ _ _ _, h.2.2.1.oth (by omega) _ _ _ _, NdC.keep (fun b hlt => ⟨hlt, hbl b hlt⟩) e he⟩
theorem NdC.oth {w W : World} {d : Nd} {c0 c1 c2 c3 : Value} {g : Nat} (h : NdC (· < w.heap.size) W d c0 c1 c2 c3) (hg : w.heap.size ≤ g) (a' b' c' d' : Value) : NdC (· < w.heap.size) (put4 W g a' b' c' d') d c0 c1 c2 c3 := by
  refine NdC.keep (fun b hlt => ⟨hlt, ?_⟩) d h
  have hb : b < w.heap.size := hlt
  unfold put4
  rw [Below.heap_setCell _ _ _ _ (by show b ≠ g; omega), Below.heap_setCell _ _ _ _ (by show b ≠ g; omega), Below.heap_setCell _ _ _ _ (by show b ≠ g; omega), Below.heap_setCell _ _ _ _ (by show b ≠ g; omega)]
/-- Get, as At calls it. -/
theorem get_at (d : Nd) (x : ByteArray) (hl : d.kind = 3 → d.keys.length = d.kids.length) (r : Option Nd) (hr : getT d x.data.toList = r) (c0 c1 c2 c3 : Value) (w W : World) (hW : AtB w W d c0 c1 c2 c3) :
    Calls Try.prog 9 #[.agg #[c0, c1, c2, c3], .string x] W fun e W' => ∃ (k : Int) (s : ByteArray) (a : Option Addr) (n q : Nat) (A : Option Addr) (m p : Nat),
      e = .returned (.tuple #[.agg #[.int .i64 k, .string s, .slice a n q, .slice A m p], .bool r.isSome]) ∧ Below W.heap.size W W' ∧ AtB w W' d c0 c1 c2 c3 ∧ NdC (· < w.heap.size) W' (r.getD nul) (.int .i64 k) (.string s) (.slice a n q) (.slice A m p) := by
  refine (RGet_any (· < w.heap.size) d x hl r hr c0 c1 c2 c3 W hW.small hW.2.2.2).mono ?_
  rintro e W' ⟨e0, e1, e2, e3, rfl, hb, hn⟩
  have hW' := hW.go hb
  obtain ⟨k, s, a, n, q, A, m, p, rfl, rfl, rfl, rfl⟩ := (hn.all hW'.small).shape
  exact ⟨k, s, a, n, q, A, m, p, rfl, hb, hW', hn⟩
/-- The same, out of sight of the walk, with where the path lies. -/
def SA (w W : World) (pb : Nat) (d : Nd) (c0 c1 c2 c3 : Value) : Prop := AtB w W d c0 c1 c2 c3 ∧ pb < w.heap.size
theorem sA {w W : World} {d : Nd} {c0 c1 c2 c3 : Value} {pb po : Nat} {v : Value} (h : AtB w W d c0 c1 c2 c3) (hp : pb < w.heap.size) (hv : W.cell? ⟨pb, po, none⟩ = some v) :
    W.cell? ⟨w.heap.size, 0, none⟩ = some c0 ∧ W.cell? ⟨w.heap.size, 1, none⟩ = some c1 ∧ W.cell? ⟨w.heap.size, 2, none⟩ = some c2 ∧ W.cell? ⟨w.heap.size, 3, none⟩ = some c3 ∧ W.cell? ⟨pb, po, none⟩ = some v ∧ SA w W pb d c0 c1 c2 c3 := by
  obtain ⟨x0, x1, x2, x3⟩ := h.2.1.cells
  exact ⟨x0, x1, x2, x3, hv, h, hp⟩
theorem sA_go {w W W' : World} {d : Nd} {c0 c1 c2 c3 : Value} {pb po : Nat} {v : Value} (h : W.cell? ⟨w.heap.size, 0, none⟩ = some c0 ∧ W.cell? ⟨w.heap.size, 1, none⟩ = some c1 ∧ W.cell? ⟨w.heap.size, 2, none⟩ = some c2 ∧ W.cell? ⟨w.heap.size, 3, none⟩ = some c3 ∧ W.cell? ⟨pb, po, none⟩ = some v ∧ SA w W pb d c0 c1 c2 c3) (hb : Below W.heap.size W W') :
    W'.cell? ⟨w.heap.size, 0, none⟩ = some c0 ∧ W'.cell? ⟨w.heap.size, 1, none⟩ = some c1 ∧ W'.cell? ⟨w.heap.size, 2, none⟩ = some c2 ∧ W'.cell? ⟨w.heap.size, 3, none⟩ = some c3 ∧ W'.cell? ⟨pb, po, none⟩ = some v ∧ SA w W' pb d c0 c1 c2 c3 :=
  sA (h.2.2.2.2.2.1.go hb) h.2.2.2.2.2.2 ((hb.cell (p := ⟨pb, po, none⟩) (Nat.lt_of_lt_of_le h.2.2.2.2.2.2 h.2.2.2.2.2.1.1.size)).trans h.2.2.2.2.1)
theorem sA_put {w W : World} {d : Nd} {c0 c1 c2 c3 : Value} {pb po g : Nat} {v : Value} (h : W.cell? ⟨w.heap.size, 0, none⟩ = some c0 ∧ W.cell? ⟨w.heap.size, 1, none⟩ = some c1 ∧ W.cell? ⟨w.heap.size, 2, none⟩ = some c2 ∧ W.cell? ⟨w.heap.size, 3, none⟩ = some c3 ∧ W.cell? ⟨pb, po, none⟩ = some v ∧ SA w W pb d c0 c1 c2 c3) (hg : w.heap.size + 2 ≤ g) (a' b' c' d' : Value) :
    (put4 W g a' b' c' d').cell? ⟨w.heap.size, 0, none⟩ = some c0 ∧ (put4 W g a' b' c' d').cell? ⟨w.heap.size, 1, none⟩ = some c1 ∧ (put4 W g a' b' c' d').cell? ⟨w.heap.size, 2, none⟩ = some c2 ∧ (put4 W g a' b' c' d').cell? ⟨w.heap.size, 3, none⟩ = some c3 ∧ (put4 W g a' b' c' d').cell? ⟨pb, po, none⟩ = some v ∧ SA w (put4 W g a' b' c' d') pb d c0 c1 c2 c3 := by
  have hp : pb < w.heap.size := h.2.2.2.2.2.2
  refine sA (h.2.2.2.2.2.1.oth hg _ _ _ _) hp ((World.cell?_of_block ?_).trans h.2.2.2.2.1)
  show (put4 W g a' b' c' d').heap[pb]? = W.heap[pb]?
  unfold put4
  rw [Below.heap_setCell _ _ _ _ (by show pb ≠ g; omega), Below.heap_setCell _ _ _ _ (by show pb ≠ g; omega), Below.heap_setCell _ _ _ _ (by show pb ≠ g; omega), Below.heap_setCell _ _ _ _ (by show pb ≠ g; omega)]
theorem sA_box {w W : World} {d : Nd} {c0 c1 c2 c3 : Value} {pb po : Nat} {v : Value} (h : W.cell? ⟨w.heap.size, 0, none⟩ = some c0 ∧ W.cell? ⟨w.heap.size, 1, none⟩ = some c1 ∧ W.cell? ⟨w.heap.size, 2, none⟩ = some c2 ∧ W.cell? ⟨w.heap.size, 3, none⟩ = some c3 ∧ W.cell? ⟨pb, po, none⟩ = some v ∧ SA w W pb d c0 c1 c2 c3) : AtB w W d c0 c1 c2 c3 := h.2.2.2.2.2.1
set_option maxRecDepth 100000 in
set_option maxHeartbeats 8000000 in
theorem RAt_any (d : Nd) (l : List L8) (hf : Fine d) (r : Option Nd) (hr : atT d l = r) (pv : Value) (c0 c1 c2 c3 : Value) (w : World) (hp : Rd w pv l) (hx : ∀ x ∈ l, x.length ≤ maxLen) (hd : NdW w d c0 c1 c2 c3) :
    Calls Try.prog 11 #[.agg #[c0, c1, c2, c3], pv] w (GotN (· < w.heap.size) w r) := by
  have HB0 := Lib.hid (AtB.make hd)
  obtain ⟨a, cap, rfl, hc, hm⟩ := rd_slice hp
  have HP := Lib.hid hp
  have HXL := Lib.hid hx
  clear hx
  have HR0 := Lib.hid hr
  have HF0 := Lib.hid hf
  obtain ⟨n, hn⟩ : ∃ n, l.length = n := ⟨_, rfl⟩
  have HN := Lib.hid hn
  rw [hn] at HP hc ⊢
  unfold maxLen at hm
  have hn63 : n ≤ 9223372036854775807 := by omega
  have HD := Lib.hid hd
  clear hp hr hf hn hd
  obtain ⟨k0, s0, a0, n0, q0, A0, m0, r0, rfl, rfl, rfl, rfl⟩ := HD.out.shape
  go_enter Try.func11, Try.ntmps11
  go_wp2
  go_loopw [6] (fun si wr => ∃ (i : Nat) (e : Nd) (v0 v1 v2 v3 : Value), i ≤ n ∧ si = .int .i64 (i : Int) ∧ Hid (atT e (l.drop i) = r) ∧ Hid (Fine e) ∧ Hid (AtB w wr e v0 v1 v2 v3)) (fun si _ => n - (intOf si).toNat)
  case atStart => exact ⟨0, d, _, _, _, _, Nat.zero_le _, rfl, HR0, HF0, HB0⟩
  case round =>
    clear HB0 HR0 HF0
    obtain ⟨i, e, v0, v1, v2, v3, hi, rfl, HR, HF, HB⟩ := hrel
    by_cases hlt : i < n
    · have hil : i < l.length := by rw [HN.out]; exact hlt
      have hiz : (i : Int) < (n : Int) := by omega
      obtain ⟨pb, po, rfl, hpb, y0⟩ := rd_at HP.out i hil
      obtain ⟨X, hX⟩ : ∃ X, ba (l[i]'hil) = X := ⟨_, rfl⟩
      have HX : Hid (X.data.toList = l[i]'hil) := Lib.hid (by rw [← hX, ba_data])
      rw [hX] at y0
      clear hX
      obtain ⟨k, s, a1, n1, q1, A1, m1, r1, rfl, rfl, rfl, rfl⟩ := (HB.out.2.2.2.all HB.out.small).shape
      obtain ⟨o, ho⟩ : ∃ o, getT e X.data.toList = o := ⟨_, rfl⟩
      have HG := Lib.hid (fun W (hW : AtB w W e _ _ _ _) => get_at e X (fine_keys HF.out) o ho (.int .i64 k) (.string s) (.slice a1 n1 q1) (.slice A1 m1 r1) w W hW)
      have HO := Lib.hid ho
      clear ho
      have HK : Hid (e.kind = k) := Lib.hid (by
        have hall := HB.out.2.2.2.all HB.out.small
        cases e with
        | mk k' t' ks' ds' =>
          obtain ⟨h0, -⟩ := hall.parts
          injection h0 with _ h0
          exact h0.symm)
      have HM : Hid (e.kids.length = m1) := Lib.hid (by
        have hall := HB.out.2.2.2.all HB.out.small
        cases e with
        | mk k' t' ks' ds' =>
          obtain ⟨_, _, _, A9, c9, h0, _⟩ := hall.parts
          injection h0 with _ h0 _
          exact h0.symm)
      have hXs : X.size ≤ maxLen := by
        have h1 := HXL.out _ (List.getElem_mem hil)
        rw [← HX.out] at h1
        exact h1
      obtain ⟨CN, hCN⟩ : ∃ c, countN X.data.toList 100000 = c := ⟨_, rfl⟩
      obtain ⟨CE, hCE⟩ : ∃ c, countE X.data.toList 100000 = c := ⟨_, rfl⟩
      have HCT : Hid (∀ W, Calls Try.prog 36 #[.string X, .int .i64 100000] W fun e w' => e = .returned (.tuple #[.int .i64 CN, .int .i64 CE]) ∧ W = w') := Lib.hid (by
        intro W
        rw [← hCN, ← hCE]
        exact RCount_any X 100000 W hXs (by decide) (by decide))
      have hcn0 : 0 ≤ CN := by rw [← hCN]; exact count_nonneg _ _
      have HCN : Hid (countN (l[i]'hil) 100000 = CN) := Lib.hid (by rw [← HX.out]; exact hCN)
      have HCE : Hid (countE (l[i]'hil) 100000 = CE) := Lib.hid (by rw [← HX.out]; exact hCE)
      clear hCN hCE hXs
      go_wp2
      have hwr : w.heap.size + 2 ≤ wr.heap.size := HB.out.2.2.1.lt
      have hS1 := sA (HB.out.go (belowD _ 1)) hpb (Below.cell ((HB.out.go (belowD _ 1)).1) (p := ⟨pb, po + i, none⟩) hpb |>.trans y0)
      have hb1 : Below wr.heap.size wr (wr.alloc (.cells #[.int .i64 0, .string ⟨#[]⟩, .slice none 0 0, .slice none 0 0] 25)).drew := ((Below.refl _ _).alloc (Nat.le_refl _) _).drew
      have hS1a := sA (HB.out.go hb1) hpb (Below.cell (HB.out.go hb1).1 (p := ⟨pb, po + i, none⟩) hpb |>.trans y0)
      clear hb1
      go_region_held3 (fun W => W.cell? ⟨w.heap.size, 0, none⟩ = some (.int .i64 k) ∧ W.cell? ⟨w.heap.size, 1, none⟩ = some (.string s) ∧ W.cell? ⟨w.heap.size, 2, none⟩ = some (.slice a1 n1 q1) ∧ W.cell? ⟨w.heap.size, 3, none⟩ = some (.slice A1 m1 r1) ∧ W.cell? ⟨pb, po + i, none⟩ = some (.string X) ∧ SA w W pb e (.int .i64 k) (.string s) (.slice a1 n1 q1) (.slice A1 m1 r1)) (first | exact hS1 | exact hS1a | exact hS2 | exact sA_go hS2 ((Below.refl _ _).alloc (Nat.le_refl _) _) | exact sA_put hS2 hwr _ _ _ _)
        (first | (go_at_call 9; refine (HG.out _ (sA_box (by first | exact hS1 | exact hS1a))).mono ?_; rintro x2 w2 ⟨k2, s2, a2, n2, q2, A2, m2, r2, rfl, hb2, hA2, hn2⟩; have hS2 := sA_go (pb := pb) (po := po + i) (v := .string X) (by first | exact hS1 | exact hS1a) hb2; (try (have hr4 := (show Row4 ((wr.alloc (.cells #[.int .i64 0, .string ⟨#[]⟩, .slice none 0 0, .slice none 0 0] 25)).drew) wr.heap.size 25 (.int .i64 0) (.string ⟨#[]⟩) (.slice none 0 0) (.slice none 0 0) from Row4.make wr _ _ _ _ _).below hb2 (by simp); obtain ⟨t0, t1, t2, t3⟩ := hr4.cells; obtain ⟨f0, f1, f2, f3⟩ := hr4.frozen))))
      · have HA := Lib.hid (hA2.go ((Below.refl w2.heap.size w2).alloc (Nat.le_refl _) (.cells #[.int .i64 k2, .string s2, .slice a2 n2 q2, .slice A2 m2 r2] 25)))
        have HV := Lib.hid (Row4.make w2 25 (.int .i64 k2) (.string s2) (.slice a2 n2 q2) (.slice A2 m2 r2))
        have hg : w.heap.size + 2 ≤ w2.heap.size := hA2.2.2.1.lt
        have HND := Lib.hid (NdC.old hn2 hA2.small ((Below.refl w2.heap.size w2).alloc (Nat.le_refl _) (.cells #[.int .i64 k2, .string s2, .slice a2 n2 q2, .slice A2 m2 r2] 25)))
        rename_i hX9
        clear hX9 hS2 hA2 hn2 hb2 hS1 hS1a
        generalize w2.heap.size = g at *
        generalize w2.alloc (.cells #[.int .i64 k2, .string s2, .slice a2 n2 q2, .slice A2 m2 r2] 25) = W3 at *
        have y3 := (Below.cell HA.out.1 (p := ⟨pb, po + i, none⟩) hpb).trans y0
        obtain ⟨x0, x1, x2, x3⟩ := HA.out.2.1.cells
        obtain ⟨fx0, fx1, fx2, fx3⟩ := HA.out.2.1.frozen
        obtain ⟨z0, z1, z2, z3⟩ := HA.out.2.2.1.cells
        obtain ⟨fz0, fz1, fz2, fz3⟩ := HA.out.2.2.1.frozen
        obtain ⟨v0, v1, v2, v3⟩ := HV.out.cells
        by_cases hk2 : k = 2
        · subst hk2
          obtain rfl : o = none := by rw [← HO.out, getT, if_neg (by rw [HK.out]; decide)]
          by_cases hin : CE = 0 ∧ CN < (m1 : Int)
          · obtain ⟨rfl, hlt2⟩ := hin
            obtain ⟨j, rfl⟩ : ∃ j : Nat, CN = (j : Int) := ⟨CN.toNat, by omega⟩
            have hjm : j < e.kids.length := by rw [HM.out]; omega
            have hkid : ∃ (b o' : Nat) (e0 e1 e2 e3 : Value), A1 = some ⟨b, o', none⟩ ∧ b < w.heap.size ∧ W3.cell? ⟨b, o' + j * 4, none⟩ = some e0 ∧ W3.cell? ⟨b, o' + j * 4 + 1, none⟩ = some e1 ∧ W3.cell? ⟨b, o' + j * 4 + 2, none⟩ = some e2 ∧ W3.cell? ⟨b, o' + j * 4 + 3, none⟩ = some e3 ∧ NdC (· < w.heap.size) W3 (e.kids[j]'hjm) e0 e1 e2 e3 := by
              have hh := HA.out.2.2.2
              cases e with
              | mk k' t' ks' ds' => exact NdC.kid hh j hjm
            obtain ⟨kb, ko, e0, e1, e2, e3, rfl, hkb, y4, y5, y6, y7, hkd⟩ := hkid
            obtain ⟨k5, s5, a5, n5, q5, A5, m5, r5, rfl, rfl, rfl, rfl⟩ := (hkd.all HA.out.small).shape
            have HST : Hid (hopT e (l[i]'hil) = some (e.kids[j]'hjm)) := Lib.hid (hop_list HK.out HCE.out HCN.out hjm)
            obtain ⟨e', he'⟩ : ∃ e', e.kids[j]'hjm = e' := ⟨_, rfl⟩
            rw [he'] at HST hkd
            have HR2 : Hid (atT e' (l.drop (i + 1)) = r) := Lib.hid (by rw [← HR.out]; exact (at_some hil HST.out).symm)
            have HF2 : Hid (Fine e') := Lib.hid (fine_kid HF.out (step_mem HST.out))
            have HB2 := Lib.hid ((HA.out.oth hg (.int .i64 k5) (.string s5) (.slice a5 n5 q5) (.slice A5 m5 r5)).next (hkd.oth (g := g) (by omega) (.int .i64 k5) (.string s5) (.slice a5 n5 q5) (.slice A5 m5 r5)))
            obtain ⟨fv0, fv1, fv2, fv3⟩ := HV.out.frozen
            clear he' hkd
            go_wp2_with (go_at_call 36; refine (HCT.out _).mono ?_; rintro e9 w9 ⟨rfl, rfl⟩)
            go_roundw
            case measure => simp [intOf]; omega
            case rel => exact ⟨i + 1, e', _, _, _, _, by omega, by go_num, HR2, HF2, HB2⟩
          · have HST : Hid (hopT e (l[i]'hil) = none) := Lib.hid (hop_out HK.out (by rw [HCE.out, HCN.out, HM.out]; exact hin))
            have HE : Hid (r = none) := Lib.hid (by rw [← HR.out]; exact at_none hil HST.out)
            have HX8 := Lib.hid (below_put4 HA.out.1 (g := w.heap.size + 1) (by omega) (.int .i64 0) (.string ⟨#[]⟩) (.slice none 0 0) (.slice none 0 0))
            by_cases hce : CE = 0
            · subst hce
              have hcn : ¬ CN < (m1 : Int) := fun h => hin ⟨rfl, h⟩
              clear hin
              go_wp2_with (go_at_call 36; refine (HCT.out _).mono ?_; rintro e9 w9 ⟨rfl, rfl⟩)
              refine bodyPost_ret (v := .tuple #[.agg #[.int .i64 0, .string ⟨#[]⟩, .slice none 0 0, .slice none 0 0], .bool false]) (by simp [results, Try.results11, go_sem, z0, z1, z2, z3]) rfl ⟨_, _, _, _, by rw [HE.out]; rfl, HX8.out, by rw [HE.out]; exact nd_nul _ _⟩
            · have p5 : (CE == 0) = false := by simpa using hce
              clear hin hce
              go_wp2_with (go_at_call 36; refine (HCT.out _).mono ?_; rintro e9 w9 ⟨rfl, rfl⟩)
              refine bodyPost_ret (v := .tuple #[.agg #[.int .i64 0, .string ⟨#[]⟩, .slice none 0 0, .slice none 0 0], .bool false]) (by simp [results, Try.results11, go_sem, z0, z1, z2, z3]) rfl ⟨_, _, _, _, by rw [HE.out]; rfl, HX8.out, by rw [HE.out]; exact nd_nul _ _⟩
        · have p2 : (k == 2) = false := by simpa using hk2
          have HST : Hid (hopT e (l[i]'hil) = o) := Lib.hid (by rw [hopT, if_neg (by rw [HK.out]; exact hk2), ← HX.out]; exact HO.out)
          clear hk2
          rcases o with _ | e'
          · have HE : Hid (r = none) := Lib.hid (by rw [← HR.out]; exact at_none hil HST.out)
            have HX8 := Lib.hid (below_put4 HA.out.1 (g := w.heap.size + 1) (by omega) (.int .i64 0) (.string ⟨#[]⟩) (.slice none 0 0) (.slice none 0 0))
            go_wp2
            refine bodyPost_ret (v := .tuple #[.agg #[.int .i64 0, .string ⟨#[]⟩, .slice none 0 0, .slice none 0 0], .bool false]) (by simp [results, Try.results11, go_sem, z0, z1, z2, z3]) rfl ⟨_, _, _, _, by rw [HE.out]; rfl, HX8.out, by rw [HE.out]; exact nd_nul _ _⟩
          · have HR2 : Hid (atT e' (l.drop (i + 1)) = r) := Lib.hid (by rw [← HR.out]; exact (at_some hil HST.out).symm)
            have HF2 : Hid (Fine e') := Lib.hid (fine_kid HF.out (step_mem HST.out))
            have HB2 : Hid (AtB w (put4 W3 w.heap.size (.int .i64 k2) (.string s2) (.slice a2 n2 q2) (.slice A2 m2 r2)) e' (.int .i64 k2) (.string s2) (.slice a2 n2 q2) (.slice A2 m2 r2)) := Lib.hid (HA.out.next HND.out)
            go_wp2
            go_roundw
            case measure => simp [intOf]; omega
            case rel => exact ⟨i + 1, e', _, _, _, _, by omega, by go_num, HR2, HF2, HB2⟩
      · have HA := Lib.hid (hA2.oth hwr (.int .i64 k2) (.string s2) (.slice a2 n2 q2) (.slice A2 m2 r2))
        have HV := Lib.hid (hr4.put (.int .i64 k2) (.string s2) (.slice a2 n2 q2) (.slice A2 m2 r2))
        have hg := hwr
        have HND := Lib.hid (hn2.oth (g := wr.heap.size) (by omega) (.int .i64 k2) (.string s2) (.slice a2 n2 q2) (.slice A2 m2 r2))
        rename_i hX9
        clear hX9 hS2 hA2 hn2 hb2 hS1 hS1a t0 t1 t2 t3 f0 f1 f2 f3 hr4 HG
        unfold put4 at HA HV HND
        generalize (((w2.setCell ⟨wr.heap.size, 0, none⟩ (.int .i64 k2)).setCell ⟨wr.heap.size, 1, none⟩ (.string s2)).setCell ⟨wr.heap.size, 2, none⟩ (.slice a2 n2 q2)).setCell ⟨wr.heap.size, 3, none⟩ (.slice A2 m2 r2) = W3 at *
        clear hwr
        generalize wr.heap.size = g at *
        have y3 := (Below.cell HA.out.1 (p := ⟨pb, po + i, none⟩) hpb).trans y0
        obtain ⟨x0, x1, x2, x3⟩ := HA.out.2.1.cells
        obtain ⟨fx0, fx1, fx2, fx3⟩ := HA.out.2.1.frozen
        obtain ⟨z0, z1, z2, z3⟩ := HA.out.2.2.1.cells
        obtain ⟨fz0, fz1, fz2, fz3⟩ := HA.out.2.2.1.frozen
        obtain ⟨v0, v1, v2, v3⟩ := HV.out.cells
        by_cases hk2 : k = 2
        · subst hk2
          obtain rfl : o = none := by rw [← HO.out, getT, if_neg (by rw [HK.out]; decide)]
          by_cases hin : CE = 0 ∧ CN < (m1 : Int)
          · obtain ⟨rfl, hlt2⟩ := hin
            obtain ⟨j, rfl⟩ : ∃ j : Nat, CN = (j : Int) := ⟨CN.toNat, by omega⟩
            have hjm : j < e.kids.length := by rw [HM.out]; omega
            have hkid : ∃ (b o' : Nat) (e0 e1 e2 e3 : Value), A1 = some ⟨b, o', none⟩ ∧ b < w.heap.size ∧ W3.cell? ⟨b, o' + j * 4, none⟩ = some e0 ∧ W3.cell? ⟨b, o' + j * 4 + 1, none⟩ = some e1 ∧ W3.cell? ⟨b, o' + j * 4 + 2, none⟩ = some e2 ∧ W3.cell? ⟨b, o' + j * 4 + 3, none⟩ = some e3 ∧ NdC (· < w.heap.size) W3 (e.kids[j]'hjm) e0 e1 e2 e3 := by
              have hh := HA.out.2.2.2
              cases e with
              | mk k' t' ks' ds' => exact NdC.kid hh j hjm
            obtain ⟨kb, ko, e0, e1, e2, e3, rfl, hkb, y4, y5, y6, y7, hkd⟩ := hkid
            obtain ⟨k5, s5, a5, n5, q5, A5, m5, r5, rfl, rfl, rfl, rfl⟩ := (hkd.all HA.out.small).shape
            have HST : Hid (hopT e (l[i]'hil) = some (e.kids[j]'hjm)) := Lib.hid (hop_list HK.out HCE.out HCN.out hjm)
            obtain ⟨e', he'⟩ : ∃ e', e.kids[j]'hjm = e' := ⟨_, rfl⟩
            rw [he'] at HST hkd
            have HR2 : Hid (atT e' (l.drop (i + 1)) = r) := Lib.hid (by rw [← HR.out]; exact (at_some hil HST.out).symm)
            have HF2 : Hid (Fine e') := Lib.hid (fine_kid HF.out (step_mem HST.out))
            have HB2 := Lib.hid ((HA.out.oth hg (.int .i64 k5) (.string s5) (.slice a5 n5 q5) (.slice A5 m5 r5)).next (hkd.oth (g := g) (by omega) (.int .i64 k5) (.string s5) (.slice a5 n5 q5) (.slice A5 m5 r5)))
            obtain ⟨fv0, fv1, fv2, fv3⟩ := HV.out.frozen
            clear he' hkd
            go_wp2_with (go_at_call 36; refine (HCT.out _).mono ?_; rintro e9 w9 ⟨rfl, rfl⟩)
            go_roundw
            case measure => simp [intOf]; omega
            case rel => exact ⟨i + 1, e', _, _, _, _, by omega, by go_num, HR2, HF2, HB2⟩
          · have HST : Hid (hopT e (l[i]'hil) = none) := Lib.hid (hop_out HK.out (by rw [HCE.out, HCN.out, HM.out]; exact hin))
            have HE : Hid (r = none) := Lib.hid (by rw [← HR.out]; exact at_none hil HST.out)
            have HX8 := Lib.hid (below_put4 HA.out.1 (g := w.heap.size + 1) (by omega) (.int .i64 0) (.string ⟨#[]⟩) (.slice none 0 0) (.slice none 0 0))
            by_cases hce : CE = 0
            · subst hce
              have hcn : ¬ CN < (m1 : Int) := fun h => hin ⟨rfl, h⟩
              clear hin
              go_wp2_with (go_at_call 36; refine (HCT.out _).mono ?_; rintro e9 w9 ⟨rfl, rfl⟩)
              refine bodyPost_ret (v := .tuple #[.agg #[.int .i64 0, .string ⟨#[]⟩, .slice none 0 0, .slice none 0 0], .bool false]) (by simp [results, Try.results11, go_sem, z0, z1, z2, z3]) rfl ⟨_, _, _, _, by rw [HE.out]; rfl, HX8.out, by rw [HE.out]; exact nd_nul _ _⟩
            · have p5 : (CE == 0) = false := by simpa using hce
              clear hin hce
              go_wp2_with (go_at_call 36; refine (HCT.out _).mono ?_; rintro e9 w9 ⟨rfl, rfl⟩)
              refine bodyPost_ret (v := .tuple #[.agg #[.int .i64 0, .string ⟨#[]⟩, .slice none 0 0, .slice none 0 0], .bool false]) (by simp [results, Try.results11, go_sem, z0, z1, z2, z3]) rfl ⟨_, _, _, _, by rw [HE.out]; rfl, HX8.out, by rw [HE.out]; exact nd_nul _ _⟩
        · have p2 : (k == 2) = false := by simpa using hk2
          have HST : Hid (hopT e (l[i]'hil) = o) := Lib.hid (by rw [hopT, if_neg (by rw [HK.out]; exact hk2), ← HX.out]; exact HO.out)
          clear hk2
          rcases o with _ | e'
          · have HE : Hid (r = none) := Lib.hid (by rw [← HR.out]; exact at_none hil HST.out)
            have HX8 := Lib.hid (below_put4 HA.out.1 (g := w.heap.size + 1) (by omega) (.int .i64 0) (.string ⟨#[]⟩) (.slice none 0 0) (.slice none 0 0))
            go_wp2
            refine bodyPost_ret (v := .tuple #[.agg #[.int .i64 0, .string ⟨#[]⟩, .slice none 0 0, .slice none 0 0], .bool false]) (by simp [results, Try.results11, go_sem, z0, z1, z2, z3]) rfl ⟨_, _, _, _, by rw [HE.out]; rfl, HX8.out, by rw [HE.out]; exact nd_nul _ _⟩
          · have HR2 : Hid (atT e' (l.drop (i + 1)) = r) := Lib.hid (by rw [← HR.out]; exact (at_some hil HST.out).symm)
            have HF2 : Hid (Fine e') := Lib.hid (fine_kid HF.out (step_mem HST.out))
            have HB2 : Hid (AtB w (put4 W3 w.heap.size (.int .i64 k2) (.string s2) (.slice a2 n2 q2) (.slice A2 m2 r2)) e' (.int .i64 k2) (.string s2) (.slice a2 n2 q2) (.slice A2 m2 r2)) := Lib.hid (HA.out.next HND.out)
            go_wp2
            go_roundw
            case measure => simp [intOf]; omega
            case rel => exact ⟨i + 1, e', _, _, _, _, by omega, by go_num, HR2, HF2, HB2⟩
    · obtain rfl : i = n := by omega
      have HE : Hid (r = some e) := Lib.hid (by rw [← HR.out, List.drop_of_length_le (by rw [HN.out]; exact Nat.le_refl _), atT])
      obtain ⟨k, s, a1, n1, q1, A1, m1, r1, rfl, rfl, rfl, rfl⟩ := (HB.out.2.2.2.all HB.out.small).shape
      obtain ⟨x0, x1, x2, x3⟩ := HB.out.2.1.cells
      obtain ⟨z0, z1, z2, z3⟩ := HB.out.2.2.1.cells
      obtain ⟨f0, f1, f2, f3⟩ := HB.out.2.2.1.frozen
      have HX9 := Lib.hid (HB.out.2.2.2.oth (g := w.heap.size + 1) (by omega) (.int .i64 k) (.string s) (.slice a1 n1 q1) (.slice A1 m1 r1))
      have HX8 := Lib.hid (below_put4 HB.out.1 (g := w.heap.size + 1) (by omega) (.int .i64 k) (.string s) (.slice a1 n1 q1) (.slice A1 m1 r1))
      go_wp2
      refine bodyPost_ret (v := .tuple #[.agg #[.int .i64 k, .string s, .slice a1 n1 q1, .slice A1 m1 r1], .bool true]) (by simp [results, Try.results11, go_sem, z0, z1, z2, z3]) rfl ⟨_, _, _, _, by rw [HE.out]; rfl, HX8.out, by rw [HE.out]; exact HX9.out⟩
end Go.Proofs.Ytgingebdoppdbaa
