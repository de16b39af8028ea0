/- A slice of ports in memory: as a list of ports; the call's own row; a port and a slice that came in, opened. -/
import Derived.Test.YtkgfinhepbipeaaDoorPrtMath
import Derived.Test.YtkgfinhepbipeaaDoorNamRd
import Derived.Lib.SmallJoins
import Derived.SliceStrings
import Derived.ProofKit
import Derived.OpenShut
namespace Go.Proofs.YtkgfinhepbipeaaDoor
open Go.RowKit Go.Sort
open Nw Dg P16 Go.ChangeShapes Go.WideShapes Go.Joins
set_option linter.unusedVariables false
/-- The cells of a port. -/
def encP (p : Po) : List Value := [.string (ba p.host), .int .i64 p.out, .int .i64 p.inn, .string (ba p.proto)]
/-- A port as a value. -/
def valP (p : Po) : Value := .agg #[.string (ba p.host), .int .i64 p.out, .int .i64 p.inn, .string (ba p.proto)]
/-- Element j at b, o reads as p. -/
def At4 (w : World) (b o j : Nat) (p : Po) : Prop :=
  w.cell? ⟨b, o + j * 4, none⟩ = some (.string (ba p.host)) ∧ w.cell? ⟨b, o + j * 4 + 1, none⟩ = some (.int .i64 p.out) ∧ w.cell? ⟨b, o + j * 4 + 2, none⟩ = some (.int .i64 p.inn) ∧ w.cell? ⟨b, o + j * 4 + 3, none⟩ = some (.string (ba p.proto))
theorem At4.below {w w' : World} {b o j : Nat} {p : Po} (h : At4 w b o j p) (hlt : b < w.heap.size) (hb : Below w.heap.size w w') : At4 w' b o j p :=
  ⟨(hb.cell (p := ⟨b, o + j * 4, none⟩) hlt).trans h.1, (hb.cell (p := ⟨b, o + j * 4 + 1, none⟩) hlt).trans h.2.1, (hb.cell (p := ⟨b, o + j * 4 + 2, none⟩) hlt).trans h.2.2.1, (hb.cell (p := ⟨b, o + j * 4 + 3, none⟩) hlt).trans h.2.2.2⟩
/-- The slice v reads as the ports of l. -/
def PR (w : World) (v : Value) (l : List Po) : Prop :=
  ∃ (a : Option Addr) (cap : Nat), v = .slice a l.length cap ∧ l.length ≤ cap ∧ cap ≤ maxLen ∧
    ((l = [] ∧ (a = none → cap = 0)) ∨ ∃ b o, a = some ⟨b, o, none⟩ ∧ b < w.heap.size ∧ ∀ j (h : j < l.length), At4 w b o j l[j])
theorem PR.below {w w' : World} {v : Value} {l : List Po} (h : PR w v l) (hb : Below w.heap.size w w') : PR w' v l := by
  obtain ⟨a, cap, rfl, h1, h2, h3⟩ := h
  refine ⟨a, cap, rfl, h1, h2, ?_⟩
  rcases h3 with h3 | ⟨b, o, rfl, h4, h5⟩
  · exact .inl h3
  · exact .inr ⟨b, o, rfl, Nat.lt_of_lt_of_le h4 hb.size, fun j hj => (h5 j hj).below h4 hb⟩
theorem pr_nil (w : World) (a : Option Addr) (cap : Nat) (h : cap ≤ maxLen) (hn : a = none → cap = 0) : PR w (.slice a 0 cap) [] := ⟨a, cap, rfl, Nat.zero_le _, h, .inl ⟨rfl, hn⟩⟩
def cellsP (l : List Po) : List Value := (l.map encP).flatten
theorem cellsP_len (l : List Po) : (cellsP l).length = l.length * 4 := by
  induction l with
  | nil => rfl
  | cons x l ih =>
    show (encP x ++ cellsP l).length = _
    rw [List.length_append, ih, List.length_cons]
    show 4 + _ = _
    omega
theorem cellsP_snoc (l : List Po) (x : Po) : cellsP (l ++ [x]) = cellsP l ++ encP x := by unfold cellsP; simp
theorem cellsP_app (l m : List Po) : cellsP (l ++ m) = cellsP l ++ cellsP m := by unfold cellsP; simp
theorem cellsP_at (l : List Po) (k : Nat) (h : k < l.length) : (cellsP l)[k * 4]? = some (.string (ba (l[k]'h).host)) ∧ (cellsP l)[k * 4 + 1]? = some (.int .i64 (l[k]'h).out) ∧ (cellsP l)[k * 4 + 2]? = some (.int .i64 (l[k]'h).inn) ∧ (cellsP l)[k * 4 + 3]? = some (.string (ba (l[k]'h).proto)) := by
  induction l generalizing k with
  | nil => cases h
  | cons x l ih =>
    have e : cellsP (x :: l) = .string (ba x.host) :: .int .i64 x.out :: .int .i64 x.inn :: .string (ba x.proto) :: cellsP l := rfl
    rw [e]
    cases k with
    | zero => exact ⟨rfl, rfl, rfl, rfl⟩
    | succ k =>
      have := ih k (Nat.lt_of_succ_lt_succ h)
      rw [show (k + 1) * 4 = k * 4 + 4 by omega]
      exact this
theorem cellsP_inv (l : List Po) (i : Nat) (u : Value) (h : (cellsP l)[i]? = some u) : ∃ (j : Nat) (hj : j < l.length), (i = j * 4 ∧ u = .string (ba (l[j]'hj).host)) ∨ (i = j * 4 + 1 ∧ u = .int .i64 (l[j]'hj).out) ∨ (i = j * 4 + 2 ∧ u = .int .i64 (l[j]'hj).inn) ∨ (i = j * 4 + 3 ∧ u = .string (ba (l[j]'hj).proto)) := by
  have hi : i < l.length * 4 := by
    rw [← cellsP_len]
    rcases Nat.lt_or_ge i (cellsP l).length with h1 | h1
    · exact h1
    · rw [List.getElem?_eq_none h1] at h; cases h
  obtain ⟨j, r, hr, rfl⟩ : ∃ j r, r < 4 ∧ i = j * 4 + r := ⟨i / 4, i % 4, Nat.mod_lt _ (by decide), by omega⟩
  have hj : j < l.length := by omega
  obtain ⟨a0, a1, a2, a3⟩ := cellsP_at l j hj
  refine ⟨j, hj, ?_⟩
  match r, hr with
  | 0, _ => exact .inl ⟨rfl, by rw [Nat.add_zero, a0] at h; exact (Option.some.inj h).symm⟩
  | 1, _ => exact .inr (.inl ⟨rfl, by rw [a1] at h; exact (Option.some.inj h).symm⟩)
  | 2, _ => exact .inr (.inr (.inl ⟨rfl, by rw [a2] at h; exact (Option.some.inj h).symm⟩))
  | 3, _ => exact .inr (.inr (.inr ⟨rfl, by rw [a3] at h; exact (Option.some.inj h).symm⟩))
theorem cellsP_one (l : List Po) : ∀ u ∈ cellsP l, u.oneCell' = true := by
  intro u hu
  obtain ⟨i, hi, e⟩ := List.getElem_of_mem hu
  obtain ⟨j, hj, ⟨-, rfl⟩ | ⟨-, rfl⟩ | ⟨-, rfl⟩ | ⟨-, rfl⟩⟩ := cellsP_inv l i u (by rw [List.getElem?_eq_getElem hi, e]) <;> rfl
/-- The cells of a row that reads so. -/
theorem cellsP_read {w : World} {b o : Nat} {l : List Po} (h : ∀ j (hj : j < l.length), At4 w b o j l[j]) (i : Nat) (u : Value) (hu : (cellsP l)[i]? = some u) : w.cell? ⟨b, o + i, none⟩ = some u := by
  obtain ⟨j, hj, hc⟩ := cellsP_inv l i u hu
  obtain ⟨a0, a1, a2, a3⟩ := h j hj
  rcases hc with ⟨rfl, rfl⟩ | ⟨rfl, rfl⟩ | ⟨rfl, rfl⟩ | ⟨rfl, rfl⟩
  · exact a0
  · exact a1
  · exact a2
  · exact a3
def zeroP : Value := .agg #[.string ByteArray.empty, .int .i64 0, .int .i64 0, .string ByteArray.empty]
theorem infoP0 : (Tryd.prog.info? 24).map (fun i => (i.zero, i.size, i.bytes)) = some (some zeroP, 4, 48) := by kernel_rfl
theorem infoP : ∃ i, Tryd.prog.info? 24 = some i ∧ i.zero = some zeroP ∧ i.size = 4 ∧ i.bytes = 48 := by
  have h := infoP0
  cases hi : Tryd.prog.info? 24 with
  | none => rw [hi] at h; cases h
  | some i =>
    rw [hi] at h
    simp only [Option.map_some, Option.some.injEq, Prod.mk.injEq] at h
    exact ⟨i, rfl, h.1, h.2.1, h.2.2⟩
theorem pr_of_owns {w : World} {base n : Nat} {e : TypeId} {v : Value} {l : List Po} (h : w.ownsRow base e 4 v n (cellsP l)) : PR w v l ∧ l.length = n := by
  have hn : l.length = n := by have := h.1; rw [cellsP_len] at this; omega
  have hlt := h.lt
  have hcells := @World.ownsRow.cells _ _ _ _ _ _ _ h
  refine ⟨?_, hn⟩
  rcases h.2 with ⟨hv, h0⟩ | ⟨g, cap, cur, hv, h1, h2, h3, h4, h5⟩
  · obtain rfl : l = [] := List.length_eq_zero_iff.1 (by omega)
    rw [hv]
    exact pr_nil w none 0 (Nat.zero_le _) fun _ => rfl
  · refine ⟨some ⟨g, 0, none⟩, cap, by rw [hv, hn], by omega, h4, .inr ⟨g, 0, rfl, (hlt g (by rw [hv]; rfl)).2, fun k hk => ?_⟩⟩
    obtain ⟨c1, c2, c3, c4⟩ := cellsP_at l k hk
    have f := hcells (g := g) (by rw [hv]; rfl)
    refine ⟨?_, ?_, ?_, ?_⟩
    · have := f _ _ c1; rw [add_plain] at this; exact this
    · have := f _ _ c2; rw [add_plain] at this; rw [Nat.zero_add] at this ⊢; exact this
    · have := f _ _ c3; rw [add_plain] at this; rw [Nat.zero_add] at this ⊢; exact this
    · have := f _ _ c4; rw [add_plain] at this; rw [Nat.zero_add] at this ⊢; exact this
theorem ownP_literal (w : World) (base : Nat) (hb : base ≤ w.heap.size) : (w.alloc (.cells #[] 24)).ownsRow base 24 4 (.slice (some ⟨w.heap.size, 0, none⟩) 0 0) 0 (cellsP []) :=
  ⟨rfl, .inr ⟨w.heap.size, 0, #[], rfl, hb, Array.getElem?_push_size (xs := w.heap), Nat.le_refl _, Nat.zero_le _, rfl, rfl⟩⟩
theorem encP_one (p : Po) : ∀ u ∈ encP p, u.oneCell' = true := by
  intro u hu
  simp only [encP, List.mem_cons, List.not_mem_nil, or_false] at hu
  rcases hu with rfl | rfl | rfl | rfl <;> rfl
section
variable {H : Type} {enc : TypeId × Value → H} {W : World} {base : Nat} {spare : Nat → Bool} {held : Bool}
theorem fourP {α : Type} : ∀ {cs : List α}, cs.length = 4 → ∃ a b c d, cs = [a, b, c, d]
  | [a, b, c, d], _ => ⟨a, b, c, d, rfl⟩
theorem listP {P : Nat → Po → Prop} : ∀ (n : Nat), (∀ i, i < n → ∃ d, P i d) → ∃ ds : List Po, ds.length = n ∧ ∀ (i : Nat) (h : i < ds.length), P i (ds[i]'h)
  | 0, _ => ⟨[], rfl, fun i h => absurd h (Nat.not_lt_zero _)⟩
  | n + 1, h => by
    obtain ⟨ds, hl, hp⟩ := listP n fun i hi => h i (by omega)
    obtain ⟨d, hd⟩ := h n (by omega)
    refine ⟨ds ++ [d], by rw [List.length_append, hl]; rfl, fun i hi => ?_⟩
    by_cases hin : i < ds.length
    · rw [List.getElem_append_left hin]; exact hp i hin
    · have : i = n := by rw [List.length_append] at hi; have : i < ds.length + 1 := hi; omega
      subst this
      rw [List.getElem_append_right (by omega)]
      simp only [hl, Nat.sub_self, List.getElem_cons_zero]
      exact hd
theorem cellP_lt {W : World} {p : Addr} {v : Value} (h : W.cell? p = some v) : p.block < W.heap.size := by
  rcases Nat.lt_or_ge p.block W.heap.size with h1 | h1
  · exact h1
  · have : W.heap[p.block]? = none := Array.getElem?_eq_none h1
    simp [World.cell?, this] at h
theorem ba_dataP (s : ByteArray) : ba s.data.toList = s := ba_of s
set_option maxRecDepth 100000 in
theorem port_of_trod {fuel : Nat} {cs : List Value} {x : DataW H × List MemPlace} (h : DataW.trod enc Tryd.prog W base spare held fuel 24 cs = some x) :
    ∃ p : Po, cs = encP p ∧ p.host.length ≤ maxLen ∧ p.proto.length ≤ maxLen := by
  obtain ⟨xs, n, hn, _, hlen, hxl0, hfld⟩ := DataW.trod_struct Tryd.underlying24 h
  have hlen4 : cs.length = 4 := hlen.trans (by kernel_rfl)
  obtain ⟨c0, c1, c2, c3, rfl⟩ := fourP hlen4
  have hxl : xs.length = 4 := hxl0
  obtain ⟨y0, y1, y2, y3, rfl⟩ := fourP hxl
  have o1 : Tryd.prog.cellsOf 9 = 1 := by kernel_rfl
  have o2 : Tryd.prog.cellsOf 3 = 1 := by kernel_rfl
  have f0 : DataW.trod enc Tryd.prog W base spare held n 9 [c0] = some y0 := by have := hfld 0 _ rfl; simpa [o1, o2] using this
  have f1 : DataW.trod enc Tryd.prog W base spare held n 3 [c1] = some y1 := by have := hfld 1 _ rfl; simpa [o1, o2] using this
  have f2 : DataW.trod enc Tryd.prog W base spare held n 3 [c2] = some y2 := by have := hfld 2 _ rfl; simpa [o1, o2] using this
  have f3 : DataW.trod enc Tryd.prog W base spare held n 9 [c3] = some y3 := by have := hfld 3 _ rfl; simpa [o1, o2] using this
  obtain ⟨s, h0, _, hs⟩ := DataW.trod_string Tryd.underlying9 f0
  obtain ⟨a, h1, _, _⟩ := DataW.trod_int Tryd.underlying3 f1
  obtain ⟨b, h2, _, _⟩ := DataW.trod_int Tryd.underlying3 f2
  obtain ⟨t, h3, _, ht⟩ := DataW.trod_string Tryd.underlying9 f3
  injection h0 with h0
  injection h1 with h1
  injection h2 with h2
  injection h3 with h3
  subst h0; subst h1; subst h2; subst h3
  exact ⟨⟨s.data.toList, a, b, t.data.toList⟩, by unfold encP; rw [ba_of, ba_of], hs, ht⟩
set_option maxRecDepth 100000 in
theorem pr_of_trod {fuel : Nat} {c : Value} {x : DataW H × List MemPlace} (f3 : DataW.trod enc Tryd.prog W base spare held fuel 31 [c] = some x) : ∃ l, PR W c l := by
  rcases DataW.trod_slice Tryd.underlying31 f3 with ⟨hcs, _⟩ | ⟨a, len, cap, elems, rest, n', hn', hcs, _, hb, hl, hm, hel, hget, _⟩
  · injection hcs with hcs
    subst hcs
    exact ⟨[], pr_nil W none 0 (Nat.zero_le _) fun _ => rfl⟩
  · injection hcs with hcs
    subst hcs
    have h2 : Tryd.prog.cellsOf 24 = 4 := by kernel_rfl
    have hsp0 : 0 < len → a.spot = none := by
      intro h0
      have hg := hget 0 h0
      rw [List.getElem?_eq_getElem (by omega), h2] at hg
      cases hc : W.cells? base (a.add (0 * 4)) 4 with
      | none => rw [hc] at hg; cases hg
      | some cs' =>
        obtain ⟨_, hl2, hat⟩ := World.cells?_some hc
        have a0 := hat 0 (by omega)
        rw [List.getElem?_eq_getElem (by omega)] at a0
        have := World.cell?_spot a0
        simpa [Addr.add] using this
    have key : ∀ i, i < len → ∃ p : Po, ∃ b o, a = ⟨b, o, none⟩ ∧ b < W.heap.size ∧ At4 W b o i p := by
      intro i hi
      have hg := hget i hi
      rw [List.getElem?_eq_getElem (by omega)] at hg
      rw [h2] at hg
      cases hc : W.cells? base (a.add (i * 4)) 4 with
      | none => rw [hc] at hg; cases hg
      | some cs' =>
        rw [hc] at hg
        obtain ⟨p, rfl, hp1, hp2⟩ := port_of_trod hg
        obtain ⟨_, _, hat⟩ := World.cells?_some hc
        obtain ⟨b, o, spot⟩ := a
        have a0 := hat 0 (by omega)
        have a1 := hat 1 (by omega)
        have a2 := hat 2 (by omega)
        have a3 := hat 3 (by omega)
        have hspot : spot = none := hsp0 (by omega)
        subst hspot
        rw [add_plain, add_plain] at a0 a1 a2 a3
        refine ⟨p, b, o, rfl, cellP_lt (p := ⟨b, o + i * 4 + 0, none⟩) (v := .string (ba p.host)) (by rw [a0]; rfl), a0, a1, a2, a3⟩
    obtain ⟨ds, hdl, hdp⟩ := listP len key
    refine ⟨ds, ⟨some a, cap, by rw [hdl], by rw [hdl]; exact hl, hm, ?_⟩⟩
    by_cases h0 : ds = []
    · exact .inl ⟨h0, fun h => by cases h⟩
    · have hpos := List.length_pos_iff.2 h0
      obtain ⟨b, o, rfl, hblt, _⟩ := hdp 0 hpos
      refine .inr ⟨b, o, rfl, hblt, fun j hj => ?_⟩
      obtain ⟨b', o', e, _, e1⟩ := hdp j hj
      injection e with e3 e4
      subst e3; subst e4
      exact e1
set_option maxRecDepth 100000 in
theorem open_ports {b0 : Nat} {r : Reach} {v : Value} {d : DataW H} {p : List MemPlace}
    (hv : Value.okWide Tryd.prog W r b0 31 v) (h : DataW.Trod enc Tryd.prog W base spare held 31 v d p) : ∃ l, PR W v l := by
  obtain ⟨a, len, cap, rfl⟩ := okWide_slice Tryd.underlying31 hv
  obtain ⟨fuel, hf⟩ := h
  simp only [Value.cells] at hf
  exact pr_of_trod hf
theorem open_port {b0 : Nat} {r : Reach} {v : Value} {d : DataW H} {p : List MemPlace}
    (hv : Value.okWide Tryd.prog W r b0 24 v) (h : DataW.Trod enc Tryd.prog W base spare held 24 v d p) :
    ∃ (ho pr : ByteArray) (o i : Int), v = .agg #[.string ho, .int .i64 o, .int .i64 i, .string pr] ∧ ho.size ≤ maxLen ∧ pr.size ≤ maxLen := by
  obtain ⟨v0, v1, v2, v3, y0, y1, y2, y3, n, rfl, -, -, t0, t1, t2, t3⟩ := open_agg4 Tryd.underlying24 (by kernel_rfl) (by kernel_rfl) hv h
  obtain ⟨a, h0, -, ha⟩ := DataW.trod_string Tryd.underlying9 t0
  obtain ⟨b, h1, -, -⟩ := DataW.trod_int Tryd.underlying3 t1
  obtain ⟨c, h2, -, -⟩ := DataW.trod_int Tryd.underlying3 t2
  obtain ⟨e, h3, -, he⟩ := DataW.trod_string Tryd.underlying9 t3
  injection h0 with h0
  injection h1 with h1
  injection h2 with h2
  injection h3 with h3
  subst h0; subst h1; subst h2; subst h3
  exact ⟨a, e, b, c, rfl, ha, he⟩
end
end Go.Proofs.YtkgfinhepbipeaaDoor
