/- The contracts of the document's own Count and Deep. -/
import Derived.Test.YtgingebdoppdbaaNodMem
import Derived.WalkKit
import Derived.ProofKit
import Derived.IntWalk
import Derived.Deep.LoopGhost
import Derived.Below
namespace Go.Proofs.Ytgingebdoppdbaa
open Go.RowKit Go.Sort
open Nw N8
set_option linter.unusedVariables false
/-- A block of four cells, known whole. -/
def Row4 (w : World) (g : Nat) (t : TypeId) (a b c d : Value) : Prop := w.heap[g]? = some (.cells #[a, b, c, d] t (0, 0))
section
variable {w w' : World} {g B : Nat} {t : TypeId} {a b c d : Value}
theorem Row4.make (w : World) (t : TypeId) (a b c d : Value) : Row4 (w.alloc (.cells #[a, b, c, d] t)) w.heap.size t a b c d := by
  show (w.heap.push _)[w.heap.size]? = _
  simp
theorem Row4.below (h : Row4 w g t a b c d) (hb : Below B w w') (hg : g < B) : Row4 w' g t a b c d := (hb.block g hg).trans h
theorem Row4.lt (h : Row4 w g t a b c d) : g < w.heap.size := by
  rcases Nat.lt_or_ge g w.heap.size with hl | hl
  · exact hl
  · unfold Row4 at h; rw [Array.getElem?_eq_none hl] at h; cases h
theorem Row4.alloc (h : Row4 w g t a b c d) (o : Obj) : Row4 (w.alloc o) g t a b c d := (Below.heap_alloc w o g h.lt).trans h
theorem Row4.cells (h : Row4 w g t a b c d) : w.cell? ⟨g, 0, none⟩ = some a ∧ w.cell? ⟨g, 1, none⟩ = some b ∧ w.cell? ⟨g, 2, none⟩ = some c ∧ w.cell? ⟨g, 3, none⟩ = some d :=
  ⟨cell_of_row w g 0 _ t (0, 0) h, cell_of_row w g 1 _ t (0, 0) h, cell_of_row w g 2 _ t (0, 0) h, cell_of_row w g 3 _ t (0, 0) h⟩
theorem Row4.frozen (h : Row4 w g t a b c d) : w.frozen? ⟨g, 0, none⟩ = false ∧ w.frozen? ⟨g, 1, none⟩ = false ∧ w.frozen? ⟨g, 2, none⟩ = false ∧ w.frozen? ⟨g, 3, none⟩ = false := by
  unfold Row4 at h
  simp [World.frozen?, h]
end
theorem belowNext {w w1 w2 : World} (h : Below w.heap.size w w1) (g : Below w1.heap.size w1 w2) : Below w.heap.size w w2 := h.trans (g.mono h.size)
theorem ret_int {k : IntKind} {a b : Int} (h : a = b) : Ending.returned (.int k a) = .returned (.int k b) := by rw [h]
theorem ret_b {a b : Bool} (h : a = b) : Ending.returned (.bool a) = .returned (.bool b) := by rw [h]
theorem NdW.kid {w : World} {k : Int} {t : L8} {ks : List L8} {ds : List Nd} {c0 c1 c2 : Value} {A : Option Addr} {n cap : Nat} (h : NdW w (.mk k t ks ds) c0 c1 c2 (.slice A n cap)) (j : Nat) (hj : j < ds.length) :
    ∃ (b o : Nat) (e0 e1 e2 e3 : Value), A = some ⟨b, o, none⟩ ∧ b < w.heap.size ∧ w.cell? ⟨b, o + j * 4, none⟩ = some e0 ∧ w.cell? ⟨b, o + j * 4 + 1, none⟩ = some e1 ∧
        w.cell? ⟨b, o + j * 4 + 2, none⟩ = some e2 ∧ w.cell? ⟨b, o + j * 4 + 3, none⟩ = some e3 ∧ NdW w (ds[j]'hj) e0 e1 e2 e3 := by
  obtain ⟨_, _, _, A', cap', hA', _, _, _, hkid⟩ := h.parts
  have hAe : A = A' := by injection hA'
  subst hAe
  exact hkid j hj
/-- A box with a node in it, and the node. -/
def Boxed (w0 w : World) (d : Nd) (c0 c1 c2 c3 : Value) : Prop := Below w0.heap.size w0 w ∧ Row4 w w0.heap.size 25 c0 c1 c2 c3 ∧ NdW w d c0 c1 c2 c3
theorem Boxed.make {w : World} {d : Nd} {c0 c1 c2 c3 : Value} (h : NdW w d c0 c1 c2 c3) : Boxed w (w.alloc (.cells #[c0, c1, c2, c3] 25)) d c0 c1 c2 c3 :=
  ⟨(Below.refl _ _).alloc (Nat.le_refl _) _, Row4.make w _ _ _ _ _, h.below ((Below.refl _ _).alloc (Nat.le_refl _) _)⟩
theorem Boxed.go {w0 w w' : World} {d : Nd} {c0 c1 c2 c3 : Value} (h : Boxed w0 w d c0 c1 c2 c3) (hb : Below w.heap.size w w') : Boxed w0 w' d c0 c1 c2 c3 :=
  ⟨belowNext h.1 hb, h.2.1.below hb h.2.1.lt, h.2.2.below hb⟩
set_option maxRecDepth 100000 in
set_option maxHeartbeats 4000000 in
theorem RCountT_any (N : Nat) : ∀ (d : Nd), cntT d ≤ N → cntT d ≤ 1099511627776 → ∀ (c0 c1 c2 c3 : Value) (w : World), NdW w d c0 c1 c2 c3 →
    Calls Try.prog 14 #[.agg #[c0, c1, c2, c3]] w fun e w' => e = .returned (.int .i64 (cntT d : Int)) ∧ Below w.heap.size w w' := by
  induction N with
  | zero => intro d h; have := cntT_pos d; omega
  | succ N ih =>
    intro d hN hbig c0 c1 c2 c3 w hd
    cases d with
    | mk k t ks ds =>
      have HB0 := Lib.hid (Boxed.make hd)
      obtain ⟨rfl, rfl, _, A, cap, rfl, hcap, hm, hnil, _⟩ := hd.parts
      have HIH := Lib.hid ih
      obtain ⟨n, hn⟩ : ∃ n, ds.length = n := ⟨_, rfl⟩
      have HN := Lib.hid hn
      have hnl : n ≤ 1099511627776 := by have := cntL_len ds; rw [cntT] at hbig; omega
      have hcnt : 1 + cntL ds ≤ 1099511627776 := by rw [cntT] at hbig; exact hbig
      have hcN : cntL ds ≤ N := by rw [cntT] at hN; omega
      rw [cntT]
      have HC := Lib.hid hcnt
      have HCN := Lib.hid hcN
      obtain ⟨TOT, hT⟩ : ∃ TOT, cntL ds = TOT := ⟨_, rfl⟩
      have HT := Lib.hid hT
      rw [hT]
      rw [hn] at HB0 hcap ⊢
      clear ih hd hn hcnt hcN hT hN hbig hnil
      go_enter Try.func14, Try.ntmps14
      go_wp2
      go_loopw [3, 4] (fun so si wr => ∃ (j c : Nat), j ≤ n ∧ c ≤ 1099511627776 ∧ si = .int .i64 (j : Int) ∧ so = .int .i64 (1 + (c : Int)) ∧ Hid (c = cntL (ds.take j)) ∧ Hid (Boxed w wr (.mk k t ks ds) (.int .i64 k) (.string (ba t)) c2 (.slice A n cap))) (fun _ si _ => n - (intOf si).toNat)
      case atStart => exact ⟨0, 0, Nat.zero_le _, Nat.zero_le _, rfl, rfl, Lib.hid rfl, HB0⟩
      case round =>
        clear HB0
        obtain ⟨j, c, hj, hc, rfl, rfl, HCJ, HB⟩ := hrel
        obtain ⟨x0, x1, x2, x3⟩ := HB.out.2.1.cells
        by_cases hlt : j < n
        · have hjl : j < ds.length := by rw [HN.out]; exact hlt
          have hjz : (j : Int) < (n : Int) := by omega
          obtain ⟨b, o, e0, e1, e2, e3, rfl, hb, y0, y1, y2, y3, hnd⟩ := HB.out.2.2.kid j hjl
          have hcj := cntL_take_succ hjl
          have hle := cntL_take_le ds (j + 1)
          have hsum : c + cntT (ds[j]'hjl) = cntL (ds.take (j + 1)) := by rw [hcj, HCJ.out]
          have hsm : c + cntT (ds[j]'hjl) ≤ 1099511627776 := by have := HC.out; have := HT.out; omega
          have HR := Lib.hid (HIH.out (ds[j]'hjl) (by have := cntL_mem (List.getElem_mem hjl); have := HCN.out; omega) (by omega) e0 e1 e2 e3 wr hnd)
          have HS := Lib.hid hsum
          obtain ⟨z, hz⟩ : ∃ z, cntT (ds[j]'hjl) = z := ⟨_, rfl⟩
          rw [hz] at HR hsm HS
          clear hnd hcj hle hsum hz
          go_wp2_with (go_at_call 14; refine HR.out.mono ?_; rintro e w2 ⟨rfl, hb2⟩)
          have HB2 := Lib.hid (HB.out.go hb2)
          clear hb2
          have HE7 : Hid (1 + (c : Int) + (z : Int) = 1 + ((c + z : Nat) : Int)) := Lib.hid (by omega)
          go_roundw
          case measure => simp [intOf]; omega
          case rel => exact ⟨j + 1, c + z, by omega, hsm, by go_num, by rw [HE7.out], HS, HB2⟩
        · obtain rfl : j = n := by omega
          have HE : Hid (c = TOT) := Lib.hid (by rw [HCJ.out, List.take_of_length_le (by rw [HN.out]; exact Nat.le_refl _), HT.out])
          go_wp2
          go_ret
          exact ⟨ret_int (by rw [HE.out]; omega), HB.out.1⟩
set_option maxRecDepth 100000 in
set_option maxHeartbeats 4000000 in
theorem RDeep_any (N : Nat) : ∀ (d : Nd), cntT d ≤ N → cntT d ≤ 1099511627776 → ∀ (c0 c1 c2 c3 : Value) (w : World), NdW w d c0 c1 c2 c3 →
    Calls Try.prog 16 #[.agg #[c0, c1, c2, c3]] w fun e w' => e = .returned (.int .i64 (depT d : Int)) ∧ Below w.heap.size w w' := by
  induction N with
  | zero => intro d h; have := cntT_pos d; omega
  | succ N ih =>
    intro d hN hbig c0 c1 c2 c3 w hd
    cases d with
    | mk k t ks ds =>
      have HB0 := Lib.hid (Boxed.make hd)
      obtain ⟨rfl, rfl, _, A, cap, rfl, hcap, hm, hnil, _⟩ := hd.parts
      have HIH := Lib.hid ih
      obtain ⟨n, hn⟩ : ∃ n, ds.length = n := ⟨_, rfl⟩
      have HN := Lib.hid hn
      have hnl : n ≤ 1099511627776 := by have := cntL_len ds; rw [cntT] at hbig; omega
      have hcnt : 1 + cntL ds ≤ 1099511627776 := by rw [cntT] at hbig; exact hbig
      have hcN : cntL ds ≤ N := by rw [cntT] at hN; omega
      rw [depT]
      have HC := Lib.hid hcnt
      have HCN := Lib.hid hcN
      obtain ⟨TOT, hT⟩ : ∃ TOT, depL ds = TOT := ⟨_, rfl⟩
      have HT := Lib.hid hT
      rw [hT]
      rw [hn] at HB0 hcap ⊢
      clear ih hd hn hcnt hcN hT hN hbig hnil
      go_enter Try.func16, Try.ntmps16
      go_wp2
      go_loopw [3, 4] (fun so si wr => ∃ (j c : Nat), j ≤ n ∧ c ≤ 1099511627776 ∧ si = .int .i64 (j : Int) ∧ so = .int .i64 (1 + (c : Int)) ∧ Hid (c = depL (ds.take j)) ∧ Hid (Boxed w wr (.mk k t ks ds) (.int .i64 k) (.string (ba t)) c2 (.slice A n cap))) (fun _ si _ => n - (intOf si).toNat)
      case atStart => exact ⟨0, 0, Nat.zero_le _, Nat.zero_le _, rfl, rfl, Lib.hid rfl, HB0⟩
      case round =>
        clear HB0
        obtain ⟨j, c, hj, hc, rfl, rfl, HCJ, HB⟩ := hrel
        obtain ⟨x0, x1, x2, x3⟩ := HB.out.2.1.cells
        by_cases hlt : j < n
        · have hjl : j < ds.length := by rw [HN.out]; exact hlt
          have hjz : (j : Int) < (n : Int) := by omega
          obtain ⟨b, o, e0, e1, e2, e3, rfl, hb, y0, y1, y2, y3, hnd⟩ := HB.out.2.2.kid j hjl
          have hdj := depL_take_succ hjl
          have hck : cntT (ds[j]'hjl) ≤ cntL ds := cntL_mem (List.getElem_mem hjl)
          have hdk := depT_cnt _ (ds[j]'hjl) (Nat.le_refl _)
          have HR := Lib.hid (HIH.out (ds[j]'hjl) (by have := HCN.out; omega) (by have := HC.out; omega) e0 e1 e2 e3 wr hnd)
          obtain ⟨z, hz⟩ : ∃ z, depT (ds[j]'hjl) = z := ⟨_, rfl⟩
          rw [hz] at HR hdj hdk
          have hzm : z ≤ 1099511627776 := by have := HC.out; omega
          have HS := Lib.hid hdj
          clear hnd hdj hck hdk hz
          by_cases hgt : c < z
          · have HS2 : Hid (z = depL (ds.take (j + 1))) := Lib.hid (by rw [HS.out, ← HCJ.out]; omega)
            have hgz : (1 : Int) + (c : Int) < (z : Int) + 1 := by omega
            have HE7 : Hid ((z : Int) + 1 = 1 + (z : Int)) := Lib.hid (by omega)
            go_wp2_with (go_at_call 16; refine HR.out.mono ?_; rintro e w2 ⟨rfl, hb2⟩)
            have HB2 := Lib.hid (HB.out.go hb2)
            clear hb2
            go_roundw
            case measure => simp [intOf]; omega
            case rel => exact ⟨j + 1, z, by omega, hzm, by go_num, by rw [HE7.out], HS2, HB2⟩
          · have HS2 : Hid (c = depL (ds.take (j + 1))) := Lib.hid (by rw [HS.out, ← HCJ.out]; omega)
            have hgz : ¬ (1 : Int) + (c : Int) < (z : Int) + 1 := by omega
            go_wp2_with (go_at_call 16; refine HR.out.mono ?_; rintro e w2 ⟨rfl, hb2⟩)
            have HB2 := Lib.hid (HB.out.go hb2)
            clear hb2
            go_roundw
            case measure => simp [intOf]; omega
            case rel => exact ⟨j + 1, c, by omega, hc, by go_num, rfl, HS2, HB2⟩
        · obtain rfl : j = n := by omega
          have HE : Hid (c = TOT) := Lib.hid (by rw [HCJ.out, List.take_of_length_le (by rw [HN.out]; exact Nat.le_refl _), HT.out])
          go_wp2
          go_ret
          exact ⟨ret_int (by rw [HE.out]; omega), HB.out.1⟩
end Go.Proofs.Ytgingebdoppdbaa
