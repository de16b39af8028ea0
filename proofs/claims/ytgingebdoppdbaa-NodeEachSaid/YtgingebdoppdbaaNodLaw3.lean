/- NodeEach: the walk of the law. NodeEach: the walk of the law at a small node. -/
import Derived.Test.YtgingebdoppdbaaRefSort2
import Derived.Test.YtgingebdoppdbaaNodEach
import Derived.Test.YtgingebdoppdbaaNodSrt2
import Derived.Test.YtgingebdoppdbaaNodLaw1
import Derived.BigQuiet
import Derived.Deep.CutRange
import Derived.Deep.RegionHeld3
namespace Go.Proofs.Ytgingebdoppdbaa
open Go.RowKit Go.Sort
open Nw N8 Go.ChangeShapes Go.WideShapes
set_option linter.unusedVariables false
namespace N8
/-- The first place of b. -/
def fstI (b : L8) : List L8 → Nat
  | [] => 0
  | x :: l => if x = b then 0 else fstI b l + 1
theorem fstI_no {b : L8} : ∀ {l : List L8}, b ∉ l → fstI b l = l.length
  | [], _ => rfl
  | x :: l, h => by
    rw [fstI, if_neg (fun e => h (by rw [e]; exact List.mem_cons_self ..)), fstI_no (fun e => h (List.mem_cons_of_mem _ e)), List.length_cons]
theorem fstI_yes {b : L8} {post : List L8} : ∀ {pre : List L8}, b ∉ pre → fstI b (pre ++ b :: post) = pre.length
  | [], _ => by rw [List.nil_append, fstI, if_pos rfl]; rfl
  | x :: l, h => by
    rw [List.cons_append, fstI, if_neg (fun e => h (by rw [e]; exact List.mem_cons_self ..)), fstI_yes (fun e => h (List.mem_cons_of_mem _ e)), List.length_cons]
theorem fstI_drop {b : L8} {l : List L8} {k : Nat} (hk : k < l.length) : fstI b (l.drop k) = if l[k]'hk = b then 0 else fstI b (l.drop (k + 1)) + 1 := by rw [List.drop_eq_getElem_cons hk, fstI]
theorem at_facts : ∀ (l : List L8) (d e : Nd), Fine d → atT d l = some e → Fine e ∧ cntT e ≤ cntT d
  | [], d, e, hf, h => by rw [atT] at h; injection h with h; subst h; exact ⟨hf, Nat.le_refl _⟩
  | x :: l, d, e, hf, h => by
    rw [atT] at h
    cases hh : hopT d x with
    | none => rw [hh] at h; cases h
    | some f =>
      rw [hh] at h
      have h1 := at_facts l f e (fine_kid hf (step_mem hh)) h
      have h2 : cntT f ≤ cntT d := by
        have h3 := step_mem hh
        cases d with
        | mk k t ks ds =>
          have h4 : cntT f ≤ cntL ds := cntL_mem h3
          rw [cntT]; omega
      exact ⟨h1.1, Nat.le_trans h1.2 h2⟩
theorem fine_nul : Fine nul := .mk (by decide) (by decide) (by simp [formB]) (fun h => by cases h) fun d h => by cases h
theorem at_nul {d : Nd} (hf : Fine d) (l : List L8) : Fine ((atT d l).getD nul) ∧ cntT ((atT d l).getD nul) ≤ cntT d := by
  cases h : atT d l with
  | none => exact ⟨fine_nul, cntT_pos d⟩
  | some e => exact at_facts l d e hf h
theorem map_nul (o : Option Nd) : (o.map sortT).getD nul = sortT (o.getD nul) := by
  cases o with
  | none => exact sort_nul.symm
  | some e => rfl
end N8
theorem small_short {d : Nd} {most : Int} (h : smallT d most = true) : shortT d = true := by
  unfold smallT at h
  rw [Bool.and_eq_true] at h
  exact h.2
/-- The three boxes of NodeEach's arguments. -/
def A3 (w W : World) (bad more : ByteArray) : Prop := Below w.heap.size w W ∧ W.cell? ⟨w.heap.size + 1, 0, none⟩ = some (.string bad) ∧ W.cell? ⟨w.heap.size + 2, 0, none⟩ = some (.string more) ∧ w.heap.size + 3 ≤ W.heap.size
theorem A3.go {w W W' : World} {bad more : ByteArray} (h : A3 w W bad more) (hb : Below W.heap.size W W') : A3 w W' bad more :=
  ⟨below3 h.1 hb, cell_far h.2.1 hb, cell_far h.2.2.1 hb, Nat.le_trans h.2.2.2 hb.size⟩
theorem a3_make (w : World) (bad more : ByteArray) (o : Obj) : A3 w (((w.alloc o).alloc (.cells #[.string bad] 9)).alloc (.cells #[.string more] 9)) bad more := by
  refine ⟨(((Below.refl _ _).alloc (Nat.le_refl _) _).alloc (by simp) _).alloc (by simp; omega) _, ?_, ?_, by simp⟩
  · have h1 : ((w.alloc o).alloc (.cells #[.string bad] 9)).heap[w.heap.size + 1]? = some (.cells #[.string bad] 9 (0, 0)) := alloc_at1 w _ o
    exact cells_alloc (cell_of_row _ (w.heap.size + 1) 0 _ 9 (0, 0) h1)
  · have h1 := alloc_at ((w.alloc o).alloc (.cells #[.string bad] 9)) (.cells #[.string more] 9)
    rw [show ((w.alloc o).alloc (.cells #[.string bad] 9)).heap.size = w.heap.size + 2 by simp] at h1
    exact cell_of_row _ (w.heap.size + 2) 0 _ 9 (0, 0) h1
theorem bn_far {w w1 : World} {d : Nd} {c0 c1 c2 c3 : Value} {g : Nat} (h : BN w g d c0 c1 c2 c3) (o1 o2 : Obj) : BN ((w.alloc o1).alloc o2) g d c0 c1 c2 c3 := (h.go (below_al w o1)).go (below_al (w.alloc o1) o2)
set_option maxRecDepth 100000 in
set_option maxHeartbeats 16000000 in
theorem NodeEach_out (n : Nd) (bad more : ByteArray) (path : List L8) (pv : Value) (c0 c1 c2 c3 : Value) (w : World) (hn : NdW w n c0 c1 c2 c3) (hp : Rd w pv path)
    (h : smallT n 300 = false ∨ (smallT n 300 = true ∧ (20 : Int) < (path.length : Int)) ∨ (smallT n 300 = true ∧ ¬ (20 : Int) < (path.length : Int) ∧ (200 : Int) < (more.size : Int))) :
    Calls Try.prog 5 #[.agg #[c0, c1, c2, c3], .string bad, .string more, pv] w fun e w' => e = .returned (.bool true) ∧ Below w.heap.size w w' := by
  obtain ⟨n_k, n_s, n_a, n_n, n_c, n_A, n_m, n_q, rfl, rfl, rfl, rfl⟩ := hn.shape
  obtain ⟨pa, pc, rfl, hpc, hpm⟩ := rd_slice hp
  have HBn := Lib.hid (bn_far (w1 := w) (bn_make hn) (.cells #[.string bad] 9) (.cells #[.string more] 9))
  have HA := Lib.hid (a3_make w bad more (.cells #[.int .i64 n_k, .string n_s, .slice n_a n_n n_c, .slice n_A n_m n_q] 25))
  have HSn := Lib.hid (fun W r hr hW => RSmall_any n 300 (by decide) (by decide) r hr (.int .i64 n_k) (.string n_s) (.slice n_a n_n n_c) (.slice n_A n_m n_q) W hW)
  unfold maxLen at hpm
  obtain ⟨L, hL⟩ : ∃ L, path.length = L := ⟨_, rfl⟩
  rw [hL] at hpc h ⊢
  clear hn hp hL
  generalize hW0 : (((w.alloc (.cells #[.int .i64 n_k, .string n_s, .slice n_a n_n n_c, .slice n_A n_m n_q] 25)).alloc (.cells #[.string bad] 9)).alloc (.cells #[.string more] 9)) = W0 at *
  obtain ⟨x0, x1, x2, x3⟩ := HBn.out.1.cells
  obtain ⟨-, -, km, -⟩ := HA.out
  rcases h with hs | ⟨hs, h1⟩ | ⟨hs, h1, h2⟩
  · go_enter Try.func5, Try.ntmps5
    go_wp2_with fail
    refine (HSn.out _ false hs HBn.out.2).mono ?_
    rintro e w1 ⟨rfl, hb1⟩
    replace HA := Lib.hid (HA.out.go hb1)
    clear hb1 km
    go_wp2_with fail
    refine (awake_any _).mono ?_
    rintro e w2 ⟨rfl, hb2⟩
    go_wp2
    go_ret
    exact ⟨rfl, below3 HA.out.1 hb2⟩
  · go_enter Try.func5, Try.ntmps5
    go_wp2_with fail
    refine (HSn.out _ true hs HBn.out.2).mono ?_
    rintro e w1 ⟨rfl, hb1⟩
    replace HA := Lib.hid (HA.out.go hb1)
    clear hb1 km
    obtain ⟨-, -, km, -⟩ := HA.out
    go_wp2_with fail
    refine (awake_any _).mono ?_
    rintro e w2 ⟨rfl, hb2⟩
    go_wp2
    go_ret
    exact ⟨rfl, below3 HA.out.1 hb2⟩
  · go_enter Try.func5, Try.ntmps5
    go_wp2_with fail
    refine (HSn.out _ true hs HBn.out.2).mono ?_
    rintro e w1 ⟨rfl, hb1⟩
    replace HA := Lib.hid (HA.out.go hb1)
    clear hb1 km
    obtain ⟨-, -, km, -⟩ := HA.out
    go_wp2_with fail
    refine (awake_any _).mono ?_
    rintro e w2 ⟨rfl, hb2⟩
    go_wp2
    go_ret
    exact ⟨rfl, below3 HA.out.1 hb2⟩
/-- What Each gives the law. -/
theorem Each_law (n : Nd) (bad more : ByteArray) (hf : Fine n) (hs : shortT n = true) (hc : cntT n ≤ 300) (hm : more.size ≤ 200) (g gl gb gm : Nat) (lv : Value) (c0 c1 c2 c3 : Value) (w W : World) (hlow : Below w.heap.size w W) (hgw : w.heap.size ≤ g) (hn : NdW w n c0 c1 c2 c3) (hC : CS g gl gb gm lv (textsT n) bad more W 0) :
    Calls Try.prog 25 #[.agg #[c0, c1, c2, c3], .func (.func 26) #[] #[.pointer (some ⟨g, 0, none⟩), .pointer (some ⟨gl, 0, none⟩), .pointer (some ⟨gb, 0, none⟩), .pointer (some ⟨gm, 0, none⟩)]] W fun e W' =>
      ∃ (m : Nd) (m_k : Int) (m_s : ByteArray) (m_a : Option Addr) (m_n m_c : Nat) (m_A : Option Addr) (m_m m_q : Nat) (E : Int) (c : Nat), e = .returned (.tuple #[.agg #[.int .i64 m_k, .string m_s, .slice m_a m_n m_c, .slice m_A m_m m_q], .int .i64 E]) ∧ W.grownBy W' (some g) ∧
        NdW W' m (.int .i64 m_k) (.string m_s) (.slice m_a m_n m_c) (.slice m_A m_m m_q) ∧ CS g gl gb gm lv (textsT n) bad more W' c ∧
        ((E = 0 ∧ c = (textsT n).length ∧ bad.data.toList ∉ textsT n ∧ m = mapT more.data.toList n) ∨ (E = 4 ∧ fstI bad.data.toList (textsT n) < (textsT n).length ∧ c = fstI bad.data.toList (textsT n) + 1 ∧ m = nul)) := by
  have hlen := textsT_len n
  refine (Each_any (· < w.heap.size) g gl gb gm lv (textsT n) bad more (by omega) hm n hf hs (by omega) 0 [] (by rw [List.drop_zero, List.append_nil]) c0 c1 c2 c3 W (fun b hb => ⟨Nat.lt_of_lt_of_le hb hlow.size, by have : b < w.heap.size := hb; omega⟩) (NdC.keep (fun b hb => ⟨hb, hlow.block b hb⟩) n hn) hC).mono ?_
  rintro e W' ⟨hg, hres⟩
  rcases hres with ⟨hb, ⟨r0, r1, r2, r3, rfl, hr⟩, hcs⟩ | ⟨pre, post, hpp, hnb, rfl, hcs⟩
  · obtain ⟨k2, s2, a2, n2, q2, A2, m2, r2', rfl, rfl, rfl, rfl⟩ := NdC.cellsOk hr
    refine ⟨_, _, _, _, _, _, _, _, _, 0, _, rfl, hg, NdC.keep (fun b hx => ⟨?_, rfl⟩) _ hr, hcs, .inl ⟨rfl, by omega, hb, rfl⟩⟩
    rcases hx with hx | hx
    · have h1 : b < w.heap.size := hx
      have h2 := hlow.size
      have h3 := hg.size
      show b < W'.heap.size
      omega
    · exact hx.2
  · have hfi := fstI_yes (post := post) hnb
    rw [← hpp] at hfi
    refine ⟨nul, _, _, _, _, _, _, _, _, 4, _, rfl, hg, nd_nul _ _, hcs, .inr ⟨rfl, ?_, by omega, rfl⟩⟩
    rw [hfi, hpp, List.length_append, List.length_cons]
    omega
/-- What the walk stands on behind Each. -/
def ST (w : World) (n m : Nd) (g gl gM : Nat) (lv : Value) (L : List L8) (bad more : ByteArray) (c : Nat) (n0 n1 n2 n3 m0 m1 m2 m3 : Value) (W : World) : Prop :=
  A3 w W bad more ∧ BN W w.heap.size n n0 n1 n2 n3 ∧ BN W gM m m0 m1 m2 m3 ∧ CS g gl (w.heap.size + 1) (w.heap.size + 2) lv L bad more W c
theorem ST.go {w : World} {n m : Nd} {g gl gM : Nat} {lv : Value} {L : List L8} {bad more : ByteArray} {c : Nat} {n0 n1 n2 n3 m0 m1 m2 m3 : Value} {W W' : World} (h : ST w n m g gl gM lv L bad more c n0 n1 n2 n3 m0 m1 m2 m3 W) (hb : Below W.heap.size W W') : ST w n m g gl gM lv L bad more c n0 n1 n2 n3 m0 m1 m2 m3 W' :=
  ⟨h.1.go hb, h.2.1.go hb, h.2.2.1.go hb, h.2.2.2.below hb⟩
/-- The two boxes that the closure holds besides. -/
theorem cs_make {w W : World} {bad more : ByteArray} {lv : Value} {L : List L8} (hA : A3 w W bad more) (hl : Rd W lv L) (ho : ∀ g, lv.ownBlock = some g → g < W.heap.size) :
    CS (W.heap.size + 1) W.heap.size (w.heap.size + 1) (w.heap.size + 2) lv L bad more ((W.alloc (.cells #[lv] 22)).alloc (.cells #[.int .i64 0] 3)) 0 := by
  have hb : Below W.heap.size W ((W.alloc (.cells #[lv] 22)).alloc (.cells #[.int .i64 0] 3)) := ((Below.refl _ _).alloc (Nat.le_refl _) _).alloc (by simp) _
  have h3 := hA.2.2.2
  exact ⟨alloc_at1 _ _ _, cell_of_row _ W.heap.size 0 _ 22 (0, 0) (alloc_at0 _ _ _), hl.below hb, cell_far hA.2.1 hb, cell_far hA.2.2.1 hb, by omega, by omega, by omega, fun e => by have := ho _ e; omega⟩
theorem short_texts : ∀ (N : Nat) (d : Nd), cntT d ≤ N → shortT d = true → ∀ x ∈ textsT d, x.length ≤ 200
  | 0, d, h, _ => by have := cntT_pos d; omega
  | N + 1, .mk k t ks ds, h, hs => by
    rw [cntT] at h
    obtain ⟨h1, h2⟩ := shortT_kids hs
    intro x hx
    rw [textsT, List.mem_append] at hx
    rcases hx with hx | hx
    · split at hx
      · rw [List.mem_singleton] at hx; subst hx; exact h1
      · cases hx
    · have key : ∀ (es : List Nd), (∀ e ∈ es, e ∈ ds) → x ∈ textsL es → x.length ≤ 200 := by
        intro es
        induction es with
        | nil => intro _ h; cases h
        | cons e es ih =>
          intro he hx
          rw [textsL, List.mem_append] at hx
          rcases hx with hx | hx
          · have hm := he e (List.mem_cons_self ..)
            have := cntL_mem hm
            exact short_texts N e (by omega) (h2 e hm) x hx
          · exact ih (fun e' h' => he e' (List.mem_cons_of_mem _ h')) hx
      exact key ds (fun e h => h) hx
theorem keep10 {w W : World} {n m : Nd} {g gl gM : Nat} {lv : Value} {L : List L8} {bad more : ByteArray} {c : Nat} {n0 n1 n2 n3 m0 m1 m2 m3 z : Value} (h : ST w n m g gl gM lv L bad more c n0 n1 n2 n3 m0 m1 m2 m3 W) (hz : z = .int .i64 (c : Int)) :
    W.cell? ⟨g, 0, none⟩ = some z ∧ W.cell? ⟨gl, 0, none⟩ = some lv ∧ W.cell? ⟨gM, 0, none⟩ = some m0 ∧ W.cell? ⟨gM, 1, none⟩ = some m1 ∧ W.cell? ⟨gM, 2, none⟩ = some m2 ∧ W.cell? ⟨gM, 3, none⟩ = some m3 ∧ W.cell? ⟨w.heap.size, 0, none⟩ = some n0 ∧ W.cell? ⟨w.heap.size, 1, none⟩ = some n1 ∧ W.cell? ⟨w.heap.size, 2, none⟩ = some n2 ∧ W.cell? ⟨w.heap.size, 3, none⟩ = some n3 := by
  obtain ⟨a0, a1, a2, a3⟩ := h.2.1.1.cells
  obtain ⟨b0, b1, b2, b3⟩ := h.2.2.1.1.cells
  subst hz
  exact ⟨cell_of_row _ g 0 _ 3 (0, 0) h.2.2.2.1, h.2.2.2.2.1, b0, b1, b2, b3, a0, a1, a2, a3⟩
theorem keep16 {W : World} {g1 g2 g3 g4 : Nat} {d1 d2 d3 d4 : Nd} {a0 a1 a2 a3 b0 b1 b2 b3 c0 c1 c2 c3 e0 e1 e2 e3 : Value} (h1 : BN W g1 d1 a0 a1 a2 a3) (h2 : BN W g2 d2 b0 b1 b2 b3) (h3 : BN W g3 d3 c0 c1 c2 c3) (h4 : BN W g4 d4 e0 e1 e2 e3) :
    W.cell? ⟨g1, 0, none⟩ = some a0 ∧ W.cell? ⟨g1, 1, none⟩ = some a1 ∧ W.cell? ⟨g1, 2, none⟩ = some a2 ∧ W.cell? ⟨g1, 3, none⟩ = some a3 ∧ W.cell? ⟨g2, 0, none⟩ = some b0 ∧ W.cell? ⟨g2, 1, none⟩ = some b1 ∧ W.cell? ⟨g2, 2, none⟩ = some b2 ∧ W.cell? ⟨g2, 3, none⟩ = some b3 ∧ W.cell? ⟨g3, 0, none⟩ = some c0 ∧ W.cell? ⟨g3, 1, none⟩ = some c1 ∧ W.cell? ⟨g3, 2, none⟩ = some c2 ∧ W.cell? ⟨g3, 3, none⟩ = some c3 ∧ W.cell? ⟨g4, 0, none⟩ = some e0 ∧ W.cell? ⟨g4, 1, none⟩ = some e1 ∧ W.cell? ⟨g4, 2, none⟩ = some e2 ∧ W.cell? ⟨g4, 3, none⟩ = some e3 := by
  obtain ⟨x0, x1, x2, x3⟩ := h1.1.cells
  obtain ⟨y0, y1, y2, y3⟩ := h2.1.cells
  obtain ⟨z0, z1, z2, z3⟩ := h3.1.cells
  obtain ⟨t0, t1, t2, t3⟩ := h4.1.cells
  exact ⟨x0, x1, x2, x3, y0, y1, y2, y3, z0, z1, z2, z3, t0, t1, t2, t3⟩
end Go.Proofs.Ytgingebdoppdbaa
namespace Go.Proofs.Ytgingebdoppdbaa
open Go.RowKit Go.Sort
open Nw N8 Go.ChangeShapes Go.WideShapes
set_option linter.unusedVariables false
theorem ba_app (x : L8) (y : ByteArray) : ba (x ++ y.data.toList) = ba x ++ y := by
  apply ByteArray.ext
  show _ = (ba x ++ y).data
  rw [ByteArray.data_append]
  apply Array.ext'
  simp [ba]
theorem RCount_gen {d : Nd} {c0 c1 c2 c3 : Value} {W : World} {C : Int} (h : NdW W d c0 c1 c2 c3) (hc : cntT d ≤ 100000 ∧ (cntT d : Int) = C) :
    Calls Try.prog 14 #[.agg #[c0, c1, c2, c3]] W fun e w' => e = .returned (.int .i64 C) ∧ Below W.heap.size W w' := by
  have := RCountT_any (cntT d) d (Nat.le_refl _) (by omega) c0 c1 c2 c3 W h
  rw [hc.2] at this
  exact this
theorem RSortT_gen {d e : Nd} {c0 c1 c2 c3 : Value} {W : World} (h : NdW W d c0 c1 c2 c3) (hf : Fine d ∧ cntT d ≤ 100000 ∧ sortT d = e) :
    Calls Try.prog 28 #[.agg #[c0, c1, c2, c3]] W (GivesN e W) := by
  have := RSortT_any d hf.1 hf.2.1 c0 c1 c2 c3 W h
  rw [hf.2.2] at this
  exact this
theorem SortedN_gen {d e : Nd} {c0 c1 c2 c3 : Value} {W : World} (h : NdW W d c0 c1 c2 c3) (hf : Fine d ∧ cntT d ≤ 65536 ∧ sortT d = e) :
    Calls Try.prog 27 #[.agg #[c0, c1, c2, c3]] W (GivesN e W) := by
  have := SortedN_any d hf.1 hf.2.1 c0 c1 c2 c3 W h
  rw [hf.2.2] at this
  exact this
set_option maxRecDepth 100000 in
set_option maxHeartbeats 32000000 in
theorem NodeEach_main (n : Nd) (bad more : ByteArray) (path : List L8) (pv : Value) (c0 c1 c2 c3 : Value) (w : World) (hn : NdW w n c0 c1 c2 c3) (hp : Rd w pv path) (hx : ∀ x ∈ path, x.length ≤ maxLen)
    (hs : smallT n 300 = true) (hL20 : ¬ (20 : Int) < (path.length : Int)) (hm2 : ¬ (200 : Int) < (more.size : Int)) :
    Calls Try.prog 5 #[.agg #[c0, c1, c2, c3], .string bad, .string more, pv] w fun e w' => e = .returned (.bool true) ∧ Below w.heap.size w w' := by
  obtain ⟨n_k, n_s, n_a, n_n, n_c, n_A, n_m, n_q, rfl, rfl, rfl, rfl⟩ := hn.shape
  obtain ⟨pa, pc, rfl, hpc, hpm⟩ := rd_slice hp
  have HBn := Lib.hid (bn_far (w1 := w) (bn_make hn) (.cells #[.string bad] 9) (.cells #[.string more] 9))
  have HA := Lib.hid (a3_make w bad more (.cells #[.int .i64 n_k, .string n_s, .slice n_a n_n n_c, .slice n_A n_m n_q] 25))
  have HSn := Lib.hid (fun W hW => RSmall_any n 300 (by decide) (by decide) true hs (.int .i64 n_k) (.string n_s) (.slice n_a n_n n_c) (.slice n_A n_m n_q) W hW)
  have hfs := small_fine hs
  have HF := Lib.hid hfs.1
  have hc1 : cntT n ≤ 300 := by have := hfs.2; omega
  have HC1 := Lib.hid hc1
  have HSH := Lib.hid (small_short hs)
  have HTX := Lib.hid (fun W hW => RTexts_any (cntT n) n (Nat.le_refl _) (by omega) (.int .i64 n_k) (.string n_s) (.slice n_a n_n n_c) (.slice n_A n_m n_q) W hW)
  have hlen := textsT_len n
  have HN0 := Lib.hid hn
  have HP := Lib.hid hp
  have HX := Lib.hid hx
  unfold maxLen at hpm
  obtain ⟨PL, hPL⟩ : ∃ PL, path.length = PL := ⟨_, rfl⟩
  rw [hPL] at hpc hL20 HP ⊢
  obtain ⟨N, hN⟩ : ∃ N, (textsT n).length = N := ⟨_, rfl⟩
  have HN := Lib.hid hN
  have hN3 : N ≤ 300 := by omega
  have hms : more.size ≤ 200 := by omega
  clear hn hp hPL hx hs hfs hc1 hlen hN
  generalize hW0 : (((w.alloc (.cells #[.int .i64 n_k, .string n_s, .slice n_a n_n n_c, .slice n_A n_m n_q] 25)).alloc (.cells #[.string bad] 9)).alloc (.cells #[.string more] 9)) = W0 at *
  obtain ⟨x0, x1, x2, x3⟩ := HBn.out.1.cells
  go_enter Try.func5, Try.ntmps5
  go_wp2_with fail
  refine (HSn.out _ HBn.out.2).mono ?_
  rintro e w1 ⟨rfl, hb⟩
  replace HA := Lib.hid (HA.out.go hb)
  replace HBn := Lib.hid (HBn.out.go hb)
  clear hb x0 x1 x2 x3 hW0 HSn
  obtain ⟨x0, x1, x2, x3⟩ := HBn.out.1.cells
  obtain ⟨-, kb, km, -⟩ := HA.out
  go_wp2_with fail
  refine (HTX.out _ HBn.out.2).mono ?_
  rintro e w2 ⟨lv, rfl, hol, hb⟩
  replace HA := Lib.hid (HA.out.go hb)
  replace HBn := Lib.hid (HBn.out.go hb)
  rw [HN.out] at hol
  obtain ⟨la, lc, rfl⟩ := own_shape hol
  have HCS := Lib.hid (cs_make HA.out (rd_of_owns hol) (fun g h => (hol.lt g h).2))
  have HALL := Lib.hid (((Below.refl w2.heap.size w2).alloc (Nat.le_refl _) (.cells #[.slice la N lc] 22)).alloc (by simp) (.cells #[.int .i64 0] 3))
  clear hb hol x0 x1 x2 x3 HTX kb km
  have HLAW := Lib.hid (Each_law n bad more HF.out HSH.out HC1.out hms _ _ _ _ _ (.int .i64 n_k) (.string n_s) (.slice n_a n_n n_c) (.slice n_A n_m n_q) w _ (below3 HA.out.1 HALL.out) (by have := HA.out.2.2.2; omega) HN0.out HCS.out)
  obtain ⟨x0, x1, x2, x3⟩ := (HBn.out.go HALL.out).1.cells
  go_wp2_with fail
  refine HLAW.out.mono ?_
  rintro e w4 ⟨m, m_k, m_s, m_a, m_n, m_c, m_A, m_m, m_q, E, c, rfl, hgr, hnm, hcs, halt⟩
  have hb4 : Below w2.heap.size w2 w4 := HALL.out.grown hgr (by simp; omega) (fun k hk => by injection hk with hk; omega)
  have hal : Below w4.heap.size w4 (w4.alloc (.cells #[.int .i64 m_k, .string m_s, .slice m_a m_n m_c, .slice m_A m_m m_q] 25)) := (Below.refl _ _).alloc (Nat.le_refl _) _
  have HS : Hid (ST w n m (w2.heap.size + 1) w2.heap.size w4.heap.size (.slice la N lc) (textsT n) bad more c (.int .i64 n_k) (.string n_s) (.slice n_a n_n n_c) (.slice n_A n_m n_q) (.int .i64 m_k) (.string m_s) (.slice m_a m_n m_c) (.slice m_A m_m m_q) (w4.alloc (.cells #[.int .i64 m_k, .string m_s, .slice m_a m_n m_c, .slice m_A m_m m_q] 25))) := Lib.hid ⟨(HA.out.go hb4).go hal, (HBn.out.go hb4).go hal, bn_make hnm, hcs.below hal⟩
  have HALT := Lib.hid halt
  clear hgr hnm hcs halt hb4 hal HCS HALL HLAW HA HBn x0 x1 x2 x3
  go_upto_region 6 with fail
  generalize w4.alloc (.cells #[.int .i64 m_k, .string m_s, .slice m_a m_n m_c, .slice m_A m_m m_q] 25) = W5 at *
  generalize w4.heap.size = gM at *
  generalize w2.heap.size = gl at *
  have k2 := HS.out.2.2.2.2.1
  have ew : IntKind.i64.wrap ((N : Int) - 1) = (N : Int) - 1 := IntWalk.i64_in _ (by omega)
  go_wp2
  go_loopw [13, 14] (fun s13 s14 wr => ∃ (k f : Nat) (z : Int), k ≤ N ∧ f ≤ N ∧ s13 = .int .i64 (f : Int) ∧ s14 = .int .i64 z ∧ Hid (z + 1 = (k : Int)) ∧ Hid (f = k + fstI bad.data.toList ((textsT n).drop k)) ∧ Hid (ST w n m (gl + 1) gl gM (.slice la N lc) (textsT n) bad more c (.int .i64 n_k) (.string n_s) (.slice n_a n_n n_c) (.slice n_A n_m n_q) (.int .i64 m_k) (.string m_s) (.slice m_a m_n m_c) (.slice m_A m_m m_q) wr)) (fun _ s14 _ => (intOf s14 + 1).toNat)
  case atStart => exact ⟨N, N, (N : Int) - 1, Nat.le_refl _, Nat.le_refl _, rfl, rfl, Lib.hid (by omega), Lib.hid (by rw [List.drop_of_length_le (by rw [HN.out]; exact Nat.le_refl _), fstI, Nat.add_zero]), HS⟩
  case round =>
    clear HS k2 ew
    obtain ⟨k, f, z, hk, hf, rfl, rfl, HZ, HFI, HS⟩ := hrel
    by_cases hk0 : k = 0
    · subst hk0
      obtain rfl : z = -1 := by have := HZ.out; omega
      have HF0 : Hid (f = fstI bad.data.toList (textsT n)) := Lib.hid (by rw [HFI.out, List.drop_zero, Nat.zero_add])
      have k2 := HS.out.2.2.2.2.1
      clear HZ HFI
      rcases HALT.out with ⟨rfl, hcN, hbd, hm⟩ | ⟨rfl, hlt, hcf, rfl⟩
      · have hfN : N = f := by rw [HF0.out, fstI_no hbd]; exact HN.out.symm
        subst hfN
        have hcN2 : N = c := by rw [hcN]; exact HN.out.symm
        subst hcN2
        obtain ⟨wz, hwz⟩ : ∃ wz, wz = wr := ⟨_, rfl⟩
        subst hwz
        have hmt := map_texts more.data.toList n HF.out
        rw [← hm] at hmt
        have HMT := Lib.hid hmt.1
        have hc1 := HC1.out
        have HML : Hid ((textsT m).length = N) := Lib.hid (by rw [hmt.1, List.length_map]; exact HN.out)
        have HTM := Lib.hid (fun W hW => RTexts_any (cntT m) m (Nat.le_refl _) (by omega) (.int .i64 m_k) (.string m_s) (.slice m_a m_n m_c) (.slice m_A m_m m_q) W hW)
        obtain ⟨C, hC⟩ : ∃ C : Int, (cntT n : Int) = C := ⟨_, rfl⟩
        have HC2 := Lib.hid (And.intro (show cntT m ≤ 100000 ∧ (cntT m : Int) = C from ⟨by omega, by rw [hmt.2]; exact hC⟩) (show cntT n ≤ 100000 ∧ (cntT n : Int) = C from ⟨by omega, hC⟩))
        obtain ⟨y0, y1, y2, y3⟩ := HS.out.2.2.1.1.cells
        clear hcN hm hbd hmt hc1 HALT HF0 hC
        go_wp2_with fail
        refine (HTM.out _ HS.out.2.2.1.2).mono ?_
        rintro e w6 ⟨wv, rfl, how, hb⟩
        rw [HML.out] at how
        replace HS := Lib.hid (HS.out.go hb)
        have HRW := Lib.hid (rd_of_owns how)
        obtain ⟨wa, wc0, rfl⟩ := own_shape how
        clear hb how y0 y1 y2 y3 k2 HTM
        have pN : ((N : Int) != (N : Int)) = false := by simp
        have pC : (C != C) = false := by simp
        go_upto_region 15 with fail
        go_cut [103] from 82 to 103 (fun s103 wx => s103 = .bool false ∧ Hid (ST w n m (gl + 1) gl gM (.slice la N lc) (textsT n) bad more N (.int .i64 n_k) (.string n_s) (.slice n_a n_n n_c) (.slice n_A n_m n_q) (.int .i64 m_k) (.string m_s) (.slice m_a m_n m_c) (.slice m_A m_m m_q) wx) ∧ Hid (Rd wx (.slice wa N wc0) (textsT m)))
        case first =>
          replace HS := Lib.hid (HS.out.go (below_drew _))
          replace HRW := Lib.hid (HRW.out.below (below_drew _))
          have HBm := Lib.hid HS.out.2.2.1
          have HBn := Lib.hid HS.out.2.1
          go_region_held3 (fun W => W.cell? ⟨gl + 1, 0, none⟩ = some (.int .i64 (N : Int)) ∧ W.cell? ⟨gl, 0, none⟩ = some (.slice la N lc) ∧ W.cell? ⟨gM, 0, none⟩ = some (.int .i64 m_k) ∧ W.cell? ⟨gM, 1, none⟩ = some (.string m_s) ∧ W.cell? ⟨gM, 2, none⟩ = some (.slice m_a m_n m_c) ∧ W.cell? ⟨gM, 3, none⟩ = some (.slice m_A m_m m_q) ∧ W.cell? ⟨w.heap.size, 0, none⟩ = some (.int .i64 n_k) ∧ W.cell? ⟨w.heap.size, 1, none⟩ = some (.string n_s) ∧ W.cell? ⟨w.heap.size, 2, none⟩ = some (.slice n_a n_n n_c) ∧ W.cell? ⟨w.heap.size, 3, none⟩ = some (.slice n_A n_m n_q)) (first | exact keep10 HS.out rfl)
            (first
              | (go_at_call 14; refine (RCount_gen (by first | with_reducible exact HBm.out.nd | with_reducible exact HBn.out.nd) (by first | with_reducible exact HC2.out.1 | with_reducible exact HC2.out.2)).mono ?_; rintro e9 w9 ⟨rfl, hb⟩; replace HS := Lib.hid (HS.out.go hb); replace HRW := Lib.hid (HRW.out.below hb); replace HBm := Lib.hid (HBm.out.go hb); replace HBn := Lib.hid (HBn.out.go hb)))
          all_goals
            go_wp2_with fail
            go_meet
            exact ⟨rfl, HS, HRW⟩
        case rest =>
        obtain ⟨rfl, HS2, HRW2⟩ := hcut
        clear HS HRW HC2 pN pC
        generalize wc = W7 at *
        go_wp2
        go_loopw [16] (fun s16 wr => ∃ k : Nat, k ≤ N ∧ s16 = .int .i64 (k : Int) ∧ Hid (ST w n m (gl + 1) gl gM (.slice la N lc) (textsT n) bad more N (.int .i64 n_k) (.string n_s) (.slice n_a n_n n_c) (.slice n_A n_m n_q) (.int .i64 m_k) (.string m_s) (.slice m_a m_n m_c) (.slice m_A m_m m_q) wr) ∧ Hid (Rd wr (.slice wa N wc0) (textsT m))) (fun s16 _ => N - (intOf s16).toNat)
        case atStart => exact ⟨0, Nat.zero_le _, rfl, HS2, HRW2⟩
        case round =>
          clear HS2 HRW2
          obtain ⟨k, hk, rfl, HS, HRW⟩ := hrel
          have k2 := HS.out.2.2.2.2.1
          by_cases hkN : k < N
          · have hkl : k < (textsT n).length := by rw [HN.out]; exact hkN
            have hkm : k < (textsT m).length := by rw [HML.out]; exact hkN
            have hkz : (k : Int) < (N : Int) := by omega
            obtain ⟨lb, lo, rfl, hlb, y0⟩ := rd_at HS.out.2.2.2.2.2.1 k hkl
            obtain ⟨vb, vo, rfl, hvb, y1⟩ := rd_at HRW.out k hkm
            have km := HS.out.1.2.2.1
            have hY : ba ((textsT m)[k]'hkm) = ba ((textsT n)[k]'hkl) ++ more := by
              have h9 : (textsT m)[k]'hkm = (textsT n)[k]'hkl ++ more.data.toList := by simp only [HMT.out, List.getElem_map]
              rw [h9, ba_app]
            have hXs : (ba ((textsT n)[k]'hkl)).size ≤ 200 := by rw [ba_size]; exact short_texts (cntT n) n (Nat.le_refl _) HSH.out _ (List.getElem_mem hkl)
            rw [hY] at y1
            generalize ba ((textsT n)[k]'hkl) = X at *
            have q0 : ((X ++ more).toList != (X ++ more).toList) = false := by simp
            clear hY
            go_wp2
            go_quiet (fail)
            go_wp2
            go_roundw
            case measure => simp [intOf] <;> omega
            case rel => exact ⟨k + 1, by omega, by go_num, Lib.hid (HS.out.go (below_drewN _ _)), Lib.hid (HRW.out.below (below_drewN _ _))⟩
          · obtain rfl : k = N := by omega
            have HAA := Lib.hid HS.out.1
            have HBn := Lib.hid HS.out.2.1
            have hc1 := HC1.out
            obtain ⟨hsf, hsc, hss⟩ := sort_facts n HF.out
            obtain ⟨hbf, hbc⟩ := at_nul HF.out path
            have HSO := Lib.hid (fun W hW => SortedN_any n HF.out (by omega) (.int .i64 n_k) (.string n_s) (.slice n_a n_n n_c) (.slice n_A n_m n_q) W hW)
            have HAn := Lib.hid (fun W hp hW => At_node n path HF.out (by omega) _ rfl (.slice pa PL pc) (.int .i64 n_k) (.string n_s) (.slice n_a n_n n_c) (.slice n_A n_m n_q) W hp HX.out hW)
            have hats := at_sort path n HF.out
            obtain ⟨ao, hao⟩ : ∃ ao, atT n path = ao := ⟨_, rfl⟩
            rw [hao] at hats HAn hbf hbc
            obtain ⟨s, hs⟩ : ∃ s, sortT n = s := ⟨_, rfl⟩
            rw [hs] at hats hsf hsc hss HSO
            have HF1 := Lib.hid (show Fine n ∧ cntT n ≤ 100000 ∧ sortT n = s from ⟨HF.out, by omega, hs⟩)
            have HSF := Lib.hid (And.intro hsf (And.intro (show cntT s ≤ 300 by omega) (And.intro hss hats)))
            have hmn := map_nul ao
            obtain ⟨bt, hbt⟩ : ∃ bt, ao.getD nul = bt := ⟨_, rfl⟩
            rw [hbt] at hbf hbc hmn
            obtain ⟨bs, hbs⟩ : ∃ bs, sortT bt = bs := ⟨_, rfl⟩
            rw [hbs] at hmn
            have HMN := Lib.hid hmn
            have HMB := Lib.hid hbt
            have HF2 := Lib.hid (show Fine bt ∧ cntT bt ≤ 100000 ∧ sortT bt = bs from ⟨hbf, by omega, hbs⟩)
            obtain ⟨B, hB⟩ : ∃ B, ao.isSome = B := ⟨_, rfl⟩
            have HB1 := Lib.hid hB
            have HB2 : Hid ((ao.map sortT).isSome = B) := Lib.hid (by rw [Option.isSome_map]; exact hB)
            clear hats hao hs hsf hsc hss hbf hbc hc1 hB hkN hk hmn hbt hbs
            obtain ⟨x0, x1, x2, x3⟩ := HBn.out.1.cells
            go_wp2_with fail
            refine (HSO.out _ HBn.out.2).mono ?_
            rintro e w7 ⟨t0, t1, t2, t3, rfl, hns, hb⟩
            obtain ⟨s_k, s_s, s_a, s_n, s_c, s_A, s_m, s_q, rfl, rfl, rfl, rfl⟩ := hns.shape
            replace HAA := Lib.hid ((HAA.out.go hb).go (below_al _ (.cells #[.int .i64 s_k, .string s_s, .slice s_a s_n s_c, .slice s_A s_m s_q] 25)))
            replace HBn := Lib.hid ((HBn.out.go hb).go (below_al _ (.cells #[.int .i64 s_k, .string s_s, .slice s_a s_n s_c, .slice s_A s_m s_q] 25)))
            have HBs := Lib.hid (bn_make hns)
            clear hb hns x0 x1 x2 x3 HSO HS HRW k2
            obtain ⟨x0, x1, x2, x3⟩ := HBs.out.1.cells
            have HAs := Lib.hid (fun W hp hW => At_node s path HSF.out.1 (by have := HSF.out.2.1; omega) _ HSF.out.2.2.2 (.slice pa PL pc) (.int .i64 s_k) (.string s_s) (.slice s_a s_n s_c) (.slice s_A s_m s_q) W hp HX.out hW)
            go_wp2_with fail
            generalize w7.alloc (.cells #[.int .i64 s_k, .string s_s, .slice s_a s_n s_c, .slice s_A s_m s_q] 25) = W8 at *
            generalize w7.heap.size = gs at *
            refine (HAs.out _ (HP.out.below HAA.out.1) HBs.out.2).mono ?_
            rintro e w8 hg8
            obtain ⟨t0, t1, t2, t3, rfl, hb, hna⟩ := hg8.all
            rw [HMN.out] at hna
            rw [HB2.out]
            obtain ⟨a_k, a_s, a_a, a_n, a_c, a_A, a_m, a_q, rfl, rfl, rfl, rfl⟩ := hna.shape
            replace HAA := Lib.hid ((HAA.out.go hb).go (below_al _ (.cells #[.int .i64 a_k, .string a_s, .slice a_a a_n a_c, .slice a_A a_m a_q] 25)))
            replace HBn := Lib.hid ((HBn.out.go hb).go (below_al _ (.cells #[.int .i64 a_k, .string a_s, .slice a_a a_n a_c, .slice a_A a_m a_q] 25)))
            replace HBs := Lib.hid ((HBs.out.go hb).go (below_al _ (.cells #[.int .i64 a_k, .string a_s, .slice a_a a_n a_c, .slice a_A a_m a_q] 25)))
            have HBa := Lib.hid (bn_make hna)
            clear hg8 hb hna x0 x1 x2 x3 HAs
            obtain ⟨x0, x1, x2, x3⟩ := HBn.out.1.cells
            go_wp2_with fail
            generalize w8.alloc (.cells #[.int .i64 a_k, .string a_s, .slice a_a a_n a_c, .slice a_A a_m a_q] 25) = W9 at *
            generalize w8.heap.size = ga at *
            refine (HAn.out _ (HP.out.below HAA.out.1) HBn.out.2).mono ?_
            rintro e w9 hg9
            obtain ⟨t0, t1, t2, t3, rfl, hb, hnb⟩ := hg9.all
            rw [HMB.out] at hnb
            rw [HB1.out]
            obtain ⟨b_k, b_s, b_a, b_n, b_c, b_A, b_m, b_q, rfl, rfl, rfl, rfl⟩ := hnb.shape
            replace HAA := Lib.hid ((HAA.out.go hb).go (below_al _ (.cells #[.int .i64 b_k, .string b_s, .slice b_a b_n b_c, .slice b_A b_m b_q] 25)))
            replace HBn := Lib.hid ((HBn.out.go hb).go (below_al _ (.cells #[.int .i64 b_k, .string b_s, .slice b_a b_n b_c, .slice b_A b_m b_q] 25)))
            replace HBs := Lib.hid ((HBs.out.go hb).go (below_al _ (.cells #[.int .i64 b_k, .string b_s, .slice b_a b_n b_c, .slice b_A b_m b_q] 25)))
            replace HBa := Lib.hid ((HBa.out.go hb).go (below_al _ (.cells #[.int .i64 b_k, .string b_s, .slice b_a b_n b_c, .slice b_A b_m b_q] 25)))
            have HBb := Lib.hid (bn_make hnb)
            clear hg9 hb hnb x0 x1 x2 x3 HAn HP HX
            have HS3 := Lib.hid (show Fine s ∧ cntT s ≤ 65536 ∧ sortT s = s from ⟨HSF.out.1, by have := HSF.out.2.1; omega, HSF.out.2.2.1⟩)
            have HSC : Hid (cntT s ≤ 65536) := Lib.hid (by have := HSF.out.2.1; omega)
            have pB : (B == B) = true := by simp
            go_upto_region 25 with fail
            generalize w9.alloc (.cells #[.int .i64 b_k, .string b_s, .slice b_a b_n b_c, .slice b_A b_m b_q] 25) = WA at *
            generalize w9.heap.size = gb at *
            replace HAA := Lib.hid (HAA.out.go (below_drew _))
            replace HBn := Lib.hid (HBn.out.go (below_drew _))
            replace HBs := Lib.hid (HBs.out.go (below_drew _))
            replace HBa := Lib.hid (HBa.out.go (below_drew _))
            replace HBb := Lib.hid (HBb.out.go (below_drew _))
            go_region_held3 (fun W => W.cell? ⟨w.heap.size, 0, none⟩ = some (.int .i64 n_k) ∧ W.cell? ⟨w.heap.size, 1, none⟩ = some (.string n_s) ∧ W.cell? ⟨w.heap.size, 2, none⟩ = some (.slice n_a n_n n_c) ∧ W.cell? ⟨w.heap.size, 3, none⟩ = some (.slice n_A n_m n_q) ∧ W.cell? ⟨gs, 0, none⟩ = some (.int .i64 s_k) ∧ W.cell? ⟨gs, 1, none⟩ = some (.string s_s) ∧ W.cell? ⟨gs, 2, none⟩ = some (.slice s_a s_n s_c) ∧ W.cell? ⟨gs, 3, none⟩ = some (.slice s_A s_m s_q) ∧ W.cell? ⟨ga, 0, none⟩ = some (.int .i64 a_k) ∧ W.cell? ⟨ga, 1, none⟩ = some (.string a_s) ∧ W.cell? ⟨ga, 2, none⟩ = some (.slice a_a a_n a_c) ∧ W.cell? ⟨ga, 3, none⟩ = some (.slice a_A a_m a_q) ∧ W.cell? ⟨gb, 0, none⟩ = some (.int .i64 b_k) ∧ W.cell? ⟨gb, 1, none⟩ = some (.string b_s) ∧ W.cell? ⟨gb, 2, none⟩ = some (.slice b_a b_n b_c) ∧ W.cell? ⟨gb, 3, none⟩ = some (.slice b_A b_m b_q)) (first | exact keep16 HBn.out HBs.out HBa.out HBb.out)
              (first
                | (go_at_call 28; refine (RSortT_gen (by first | with_reducible exact HBn.out.nd | with_reducible exact HBb.out.nd) (by first | with_reducible exact HF1.out | with_reducible exact HF2.out)).mono ?_; rintro e9 w9 ⟨t0, t1, t2, t3, rfl, hH, hb⟩; obtain ⟨p_k, p_s, p_a, p_n, p_c, p_A, p_m, p_q, rfl, rfl, rfl, rfl⟩ := hH.shape; replace HAA := Lib.hid (HAA.out.go hb); replace HBn := Lib.hid (HBn.out.go hb); replace HBs := Lib.hid (HBs.out.go hb); replace HBa := Lib.hid (HBa.out.go hb); replace HBb := Lib.hid (HBb.out.go hb); (try clear HP); have HP := Lib.hid hH)
                | (go_at_call 12; refine (RSame_gen (by first | with_reducible exact HBs.out.nd | with_reducible exact HBa.out.nd) (by with_reducible exact HP.out) (same_self _)).mono ?_; rintro e9 w9 ⟨rfl, hb⟩; replace HAA := Lib.hid (HAA.out.go hb); replace HBn := Lib.hid (HBn.out.go hb); replace HBs := Lib.hid (HBs.out.go hb); replace HBa := Lib.hid (HBa.out.go hb); replace HBb := Lib.hid (HBb.out.go hb))
                | (go_at_call 27; refine (SortedN_gen HBs.out.nd HS3.out).mono ?_; rintro e9 w9 ⟨t0, t1, t2, t3, rfl, hH, hb⟩; obtain ⟨r_k, r_s, r_a, r_n, r_c, r_A, r_m, r_q, rfl, rfl, rfl, rfl⟩ := hH.shape; replace HAA := Lib.hid (HAA.out.go hb); replace HBn := Lib.hid (HBn.out.go hb); replace HBs := Lib.hid (HBs.out.go hb); replace HBa := Lib.hid (HBa.out.go hb); replace HBb := Lib.hid (HBb.out.go hb); have HP3 := Lib.hid hH)
                | (go_at_call 17; refine (Same_gen HSC.out HP3.out HBs.out.2 (same_self _)).mono ?_; rintro e9 w9 ⟨rfl, hb⟩; replace HAA := Lib.hid (HAA.out.go hb); replace HBn := Lib.hid (HBn.out.go hb); replace HBs := Lib.hid (HBs.out.go hb); replace HBa := Lib.hid (HBa.out.go hb); replace HBb := Lib.hid (HBb.out.go hb))
                | (go_at_call 7; refine (awake_any _).mono ?_; rintro e9 w9 ⟨rfl, hb⟩; replace HAA := Lib.hid (HAA.out.go hb); replace HBn := Lib.hid (HBn.out.go hb); replace HBs := Lib.hid (HBs.out.go hb); replace HBa := Lib.hid (HBa.out.go hb); replace HBb := Lib.hid (HBb.out.go hb)))
            all_goals
              go_wp2
              go_ret
              exact ⟨rfl, HAA.out.1⟩
      · have hfz : (f : Int) < (N : Int) := by rw [HN.out, ← HF0.out] at hlt; omega
        have k1 : wr.cell? ⟨gl + 1, 0, none⟩ = some (.int .i64 ((f : Int) + 1)) := by
          have := cell_of_row _ (gl + 1) 0 _ 3 (0, 0) HS.out.2.2.2.1
          rw [this, hcf, HF0.out]
          rfl
        have ew : IntKind.i64.wrap ((f : Int) + 1) = (f : Int) + 1 := IntWalk.i64_in _ (by omega)
        obtain ⟨y0, y1, y2, y3⟩ := HS.out.2.2.1.1.cells
        clear hlt hcf
        go_wp2_with fail
        refine (RSame_gen HS.out.2.2.1.2 (nd_nul _ _) (same_self nul)).mono ?_
        rintro e w5 ⟨rfl, hb⟩
        replace HS := Lib.hid (HS.out.go hb)
        clear hb k1 k2 y0 y1 y2 y3
        go_wp2_with fail
        refine (awake_any _).mono ?_
        rintro e w6 ⟨rfl, hb⟩
        go_wp2
        go_ret
        exact ⟨rfl, below3 HS.out.1.1 hb⟩
    · obtain ⟨k, rfl⟩ : ∃ k', k = k' + 1 := ⟨k - 1, by omega⟩
      obtain rfl : z = (k : Int) := by have := HZ.out; omega
      have hkl : k < (textsT n).length := by rw [HN.out]; omega
      have hkz : (k : Int) < (N : Int) := by omega
      obtain ⟨lb, lo, rfl, hlb, y0⟩ := rd_at HS.out.2.2.2.2.2.1 k hkl
      have k2 := HS.out.2.2.2.2.1
      have kb := HS.out.1.2.1
      have ew : IntKind.i64.wrap ((k : Int) - 1) = (k : Int) - 1 := IntWalk.i64_in _ (by omega)
      have hFD := fstI_drop (b := bad.data.toList) hkl
      obtain ⟨X, hX⟩ : ∃ X, ba ((textsT n)[k]'hkl) = X := ⟨_, rfl⟩
      rw [hX] at y0
      by_cases hxb : (textsT n)[k]'hkl = bad.data.toList
      · have q1 : (X.toList == bad.toList) = true := by rw [← hX]; exact str_eq_true hxb
        have HFD : Hid (k = k + fstI bad.data.toList ((textsT n).drop k)) := Lib.hid (by rw [hFD, if_pos hxb, Nat.add_zero])
        clear hX hxb hFD hk0
        go_wp2
        go_quiet (fail)
        go_wp2
        go_roundw
        case measure => simp [intOf] <;> omega
        case rel => exact ⟨k, k, (k : Int) - 1, by omega, by omega, rfl, rfl, Lib.hid (by omega), HFD, Lib.hid (HS.out.go (below_drewN _ _))⟩
      · have q1 : (X.toList == bad.toList) = false := by rw [← hX]; exact str_eq_false hxb
        have HFD : Hid (f = k + fstI bad.data.toList ((textsT n).drop k)) := Lib.hid (by rw [hFD, if_neg hxb, HFI.out]; omega)
        clear hX hxb hFD hk0
        go_wp2
        go_quiet (fail)
        go_wp2
        go_roundw
        case measure => simp [intOf] <;> omega
        case rel => exact ⟨k, f, (k : Int) - 1, by omega, by omega, rfl, rfl, Lib.hid (by omega), HFD, Lib.hid (HS.out.go (below_drewN _ _))⟩
theorem NodeEach_walk (n : Nd) (bad more : ByteArray) (path : List L8) (pv : Value) (c0 c1 c2 c3 : Value) (w : World) (hn : NdW w n c0 c1 c2 c3) (_ : bad.size ≤ maxLen) (_ : more.size ≤ maxLen) (hp : Rd w pv path) (hx : ∀ x ∈ path, x.length ≤ maxLen) :
    Calls Try.prog 5 #[.agg #[c0, c1, c2, c3], .string bad, .string more, pv] w fun e w' => e = .returned (.bool true) ∧ Below w.heap.size w w' := by
  cases hs : smallT n 300 with
  | false => exact NodeEach_out n bad more path pv c0 c1 c2 c3 w hn hp (.inl hs)
  | true =>
    by_cases h20 : (20 : Int) < (path.length : Int)
    · exact NodeEach_out n bad more path pv c0 c1 c2 c3 w hn hp (.inr (.inl ⟨hs, h20⟩))
    · by_cases h2 : (200 : Int) < (more.size : Int)
      · exact NodeEach_out n bad more path pv c0 c1 c2 c3 w hn hp (.inr (.inr ⟨hs, h20, h2⟩))
      · exact NodeEach_main n bad more path pv c0 c1 c2 c3 w hn hp hx hs h20 h2
end Go.Proofs.Ytgingebdoppdbaa
