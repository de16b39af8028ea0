/- BloRdr, BloRdA, BloRdB -/
import Derived.Deep.QuietTactic
import Derived.Test.YtmdgpejedbkkdaaGreatDoorWT18
import Derived.Test.YtmdgpejedbkkdaaGreatDoorWT36
set_option linter.unusedVariables false
set_option linter.unusedSimpArgs false
set_option maxRecDepth 100000
set_option maxHeartbeats 16000000
open Go.Lib (hid)
namespace Go.Proofs.YtmdgpejedbkkdaaGreatDoor
section
open Go.RowKit Go.Sort
open Nw N8 Q6 F9 B10 Go.ChangeShapes Go.WideShapes
structure KP (g : Nat) (sl : Value) (w w' : World) : Prop where
 os : w'.os = w.os
 tape : w'.tape = w.tape
 output : w'.output = w.output
 size : w.heap.size ≤ w'.heap.size
 block : ∀ k, k < w.heap.size → k ≠ g → sl.ownBlock ≠ some k → w'.heap[k]? = w.heap[k]?
section
variable {g n p : Nat} {sl : Value} {w0 w w1 w2 : World} {M : List Ln}
theorem KP.refl (g : Nat) (sl : Value) (w : World) : KP g sl w w := ⟨rfl, rfl, rfl, Nat.le_refl _, fun _ _ _ _ => rfl⟩
theorem KP.of (h : Below w.heap.size w w1) : KP g sl w w1 := ⟨h.os, h.tape, h.output, h.size, fun k hk _ _ => h.block k hk⟩
theorem KP.trans (h : KP g sl w w1) (k : KP g sl w1 w2) : KP g sl w w2 :=
 ⟨k.os.trans h.os, k.tape.trans h.tape, k.output.trans h.output, Nat.le_trans h.size k.size, fun i hi h1 h2 => (k.block i (Nat.lt_of_lt_of_le hi h.size) h1 h2).trans (h.block i hi h1 h2)⟩
theorem KP.go (h : KP g sl w w1) (k : Below w1.heap.size w1 w2) : KP g sl w w2 := h.trans (KP.of k)
theorem KP.alloc (h : KP g sl w w1) (o : Obj) : KP g sl w (w1.alloc o) := h.go ((Below.refl _ _).alloc (Nat.le_refl _) _)
theorem KP.below {B : Nat} (h : KP g sl w w1) (k : Below B w0 w) (hB : B ≤ w.heap.size) (hg : B ≤ g) (hs : ∀ b, sl.ownBlock = some b → B ≤ b) : Below B w0 w1 :=
 k.trans ⟨h.os, h.tape, h.output, h.size, fun i hi => h.block i (by omega) (by omega) fun e => by have := hs i e; omega⟩
def RB (w : World) (g : Nat) (a b : Value) : Prop := w.heap[g]? = some (.cells #[a, b] 58 (0, 0))
def RD (w0 : World) (g : Nat) (sl : Value) (n : Nat) (w : World) (M : List Ln) (p : Nat) : Prop :=
 (Below w0.heap.size w0 w ∧ w0.heap.size ≤ g) ∧ (M.length = n ∧ p ≤ n ∧ FineB M) ∧ RB w g sl (.int .i64 (p : Int)) ∧ w.ownsRow w0.heap.size 62 3 sl n (cellsN M)
theorem RB.lt {a b : Value} (h : RB w g a b) : g < w.heap.size := by
 rcases Nat.lt_or_ge g w.heap.size with hl | hl
 ·exact hl
 ·unfold RB at h; rw [Array.getElem?_eq_none hl] at h; cases h
theorem RB.cells {a b : Value} (h : RB w g a b) : w.cell? ⟨g, 0, none⟩ = some a ∧ w.cell? ⟨g, 1, none⟩ = some b ∧ w.frozen? ⟨g, 1, none⟩ = false := by
 unfold RB at h
 refine ⟨?_, ?_, ?_⟩
 ·rw [cell_of_row _ _ 0 _ _ _ h]; rfl
 ·rw [cell_of_row _ _ 1 _ _ _ h]; rfl
 ·simp [World.frozen?, h]
theorem RD.lt (h : RD w0 g sl n w M p) : g < w.heap.size := h.2.2.1.lt
theorem RD.own (h : RD w0 g sl n w M p) : ∀ b, sl.ownBlock = some b → w0.heap.size ≤ b ∧ b < w.heap.size := fun b hb => h.2.2.2.lt b hb
theorem RD.base (h : RD w0 g sl n w M p) : Below w0.heap.size w0 w := h.1.1
theorem RD.apart (h : RD w0 g sl n w M p) : sl.ownBlock ≠ some g := by
 intro e
 obtain ⟨-, -, h1, h2⟩ := h
 rcases h2.2 with ⟨h0, _⟩ | ⟨g1, cap1, cur, e1, _, e3, _⟩
 ·rw [h0] at e; cases e
 ·rw [e1] at e
  injection e with e
  have e : g1 = g := e
  subst e
  unfold RB at h1
  rw [h1] at e3
  injection e3 with e3
  injection e3 with _ e4 _
  exact absurd e4 (by decide)
theorem RD.cells (h : RD w0 g sl n w M p) : w.cell? ⟨g, 0, none⟩ = some sl ∧ w.cell? ⟨g, 1, none⟩ = some (.int .i64 (p : Int)) ∧ w.frozen? ⟨g, 1, none⟩ = false := h.2.2.1.cells
theorem RD.shape (h : RD w0 g sl n w M p) : ∃ a c, sl = .slice a n c := own_shape h.2.2.2
theorem RD.go (h : RD w0 g sl n w M p) (hb : Below w.heap.size w w1) : RD w0 g sl n w1 M p := by
 have hlt := h.lt
 have hs := h.base.size
 obtain ⟨⟨h1, h2⟩, h3, h4, h5⟩ := h
 exact ⟨⟨h1.trans (hb.mono hs), h2⟩, h3, (hb.block g hlt).trans h4, owns_below h5 hb⟩
theorem RD.seek (h : RD w0 g sl n w M p) {p' : Nat} (hp : p' ≤ n) : RD w0 g sl n (w.setCell ⟨g, 1, none⟩ (.int .i64 (p' : Int))) M p' ∧ KP g sl w (w.setCell ⟨g, 1, none⟩ (.int .i64 (p' : Int))) := by
 have hlt := h.lt
 have hap := h.apart
 obtain ⟨⟨h1, h2⟩, ⟨h3, h4, h5⟩, h6, h7⟩ := h
 refine ⟨⟨⟨h1.setCell (p := ⟨g, 1, none⟩) h2 _, h2⟩, ⟨h3, hp, h5⟩, Lib.heap_setCell_same (i := 1) h6 _, owns_keep h7 fun b hb => Below.heap_setCell _ _ _ b ?_⟩, ⟨rfl, rfl, rfl, by simp [World.setCell], fun k hk hkg _ => Below.heap_setCell _ _ _ k hkg⟩⟩
 rintro rfl
 exact hap hb
theorem RD.next (h : RD w0 g sl n w M p) (hp : p < n) : RD w0 g sl n (w.setCell ⟨g, 1, none⟩ (.int .i64 ((p : Int) + 1))) M (p + 1) ∧ KP g sl w (w.setCell ⟨g, 1, none⟩ (.int .i64 ((p : Int) + 1))) := h.seek (p' := p + 1) hp
theorem RD.row (h : RD w0 g sl n w M p) {k : Nat} (hk : k < M.length) : ∃ B cap, sl = .slice (some ⟨B, 0, none⟩) n cap ∧ n ≤ cap ∧ cap ≤ maxLen ∧
  (w.cell? ⟨B, k * 3, none⟩ = some (.int .i64 ((M[k]'hk).no : Int)) ∧ w.cell? ⟨B, k * 3 + 1, none⟩ = some (.int .i64 ((M[k]'hk).ind : Int)) ∧ w.cell? ⟨B, k * 3 + 2, none⟩ = some (.string ⟨(M[k]'hk).text.toArray⟩)) ∧
  (w.frozen? ⟨B, k * 3, none⟩ = false ∧ w.frozen? ⟨B, k * 3 + 1, none⟩ = false ∧ w.frozen? ⟨B, k * 3 + 2, none⟩ = false) := by
 obtain ⟨-, ⟨h3, h4, h5⟩, -, h7⟩ := h
 have h8 := h7
 rcases h7.2 with ⟨h0, hn⟩ | ⟨B, cap, cur, e1, e2, e3, e4, e5, e6⟩
 ·omega
 ·subst e1
  obtain ⟨c1, c2, c3⟩ := cellsN_at M k hk
  exact ⟨B, cap, rfl, e4, e5, ⟨(h8.cellAt _ (by omega)).trans c1, (h8.cellAt _ (by omega)).trans c2, (h8.cellAt _ (by omega)).trans c3⟩, h8.frozenAt _, h8.frozenAt _, h8.frozenAt _⟩
theorem cellsN_set : ∀ (M : List Ln) (k : Nat) (x : Ln), k < M.length → ((((cellsN M).set (k * 3) (.int .i64 (x.no : Int))).set (k * 3 + 1) (.int .i64 (x.ind : Int))).set (k * 3 + 2) (.string ⟨x.text.toArray⟩)) = cellsN (M.set k x)
 | [], k, x, h => absurd h (Nat.not_lt_zero _)
 | y :: M, 0, x, _ => rfl
 | y :: M, k + 1, x, h => by
  have := cellsN_set M k x (Nat.lt_of_succ_lt_succ h)
  rw [List.set_cons_succ, show cellsN (y :: M) = .int .i64 (y.no : Int) :: .int .i64 (y.ind : Int) :: .string ⟨y.text.toArray⟩ :: cellsN M from rfl,
   show cellsN (y :: M.set k x) = .int .i64 (y.no : Int) :: .int .i64 (y.ind : Int) :: .string ⟨y.text.toArray⟩ :: cellsN (M.set k x) from rfl, ← this, show (k + 1) * 3 = k * 3 + 3 by omega]
  rfl
def p3 (w : World) (B o : Nat) (a b c : Value) : World := ((w.setCell ⟨B, o, none⟩ a).setCell ⟨B, o + 1, none⟩ b).setCell ⟨B, o + 2, none⟩ c
theorem p3_oth (w : World) (B o : Nat) (a b c : Value) (k : Nat) (hk : k ≠ B) : (p3 w B o a b c).heap[k]? = w.heap[k]? := by
 unfold p3
 rw [set_oth _ _ _ _ (by exact hk), set_oth _ _ _ _ (by exact hk), set_oth _ _ _ _ (by exact hk)]
theorem RD.line {B cap : Nat} (h : RD w0 g (.slice (some ⟨B, 0, none⟩) n cap) n w M p) {k : Nat} (hk : k < M.length) (x : Ln) (hf : FineB (M.set k x)) :
  RD w0 g (.slice (some ⟨B, 0, none⟩) n cap) n (p3 w B (k * 3) (.int .i64 (x.no : Int)) (.int .i64 (x.ind : Int)) (.string ⟨x.text.toArray⟩)) (M.set k x) p ∧ KP g (.slice (some ⟨B, 0, none⟩) n cap) w (p3 w B (k * 3) (.int .i64 (x.no : Int)) (.int .i64 (x.ind : Int)) (.string ⟨x.text.toArray⟩)) := by
 have hap := h.apart
 have hne : g ≠ B := fun e => hap (by rw [e]; rfl)
 have hown := (h.own B rfl).1
 obtain ⟨⟨h1, h2⟩, ⟨h3, h4, h5⟩, h6, h7⟩ := h
 refine ⟨⟨⟨((h1.setCell (p := ⟨B, k * 3, none⟩) hown _).setCell (p := ⟨B, k * 3 + 1, none⟩) hown _).setCell (p := ⟨B, k * 3 + 2, none⟩) hown _, h2⟩, ⟨by rw [List.length_set]; exact h3, h4, hf⟩, (p3_oth w B _ _ _ _ g hne).trans h6, ?_⟩, ⟨rfl, rfl, rfl, by unfold p3; simp [World.setCell], fun i hi hig his => p3_oth w B _ _ _ _ i fun e => his (by rw [e]; rfl)⟩⟩
 rw [← cellsN_set M k x hk]
 exact (((h7.stored _ _).1.stored _ _).1.stored _ _).1
theorem RD.some_max (h : RD w0 g sl n w M p) (hm : SomeMax w0) : SomeMax w := hm.keep h.base
end
end
section
open Go.RowKit Go.Sort
open Nw N8 Q6 F9 B10 Go.ChangeShapes Go.WideShapes
def OutC (w0 : World) (g : Nat) (sl : Value) (n : Nat) (M : List Ln) (p lo lvl : Nat) (R : Res) (E : Int) (W : World) (N : Nd → Prop) : Prop :=
 ∃ (M' : List Ln) (p' : Nat), RD w0 g sl n W M' p' ∧
  ((E = 0 ∧ lo ≤ p' ∧ M'.drop p' = M.drop p' ∧ ∃ d, Gets lvl R d (p' - p) (M'.drop p') ∧ N d) ∨ (E ≠ 0 ∧ ∃ y t, R = .bad y.no E ∧ M'.drop p' = y :: t))
def Out (w0 : World) (g : Nat) (sl : Value) (n : Nat) (M : List Ln) (p lo lvl : Nat) (R : Res) (w : World) (e : Ending) (w' : World) : Prop :=
 ∃ (k : Int) (t : ByteArray) (a : Option Addr) (i c : Nat) (A : Option Addr) (m q : Nat) (E : Int), e = .returned (.tuple #[.agg #[.int .i64 k, .string t, .slice a i c, .slice A m q], .int .i64 E]) ∧ KP g sl w w' ∧
  OutC w0 g sl n M p lo lvl R E w' (fun d => NdC (fun b => w.heap.size ≤ b ∧ b < w'.heap.size) w' d (.int .i64 k) (.string t) (.slice a i c) (.slice A m q))
theorem OutC.imp {w0 : World} {g n p lo lvl : Nat} {sl : Value} {M : List Ln} {R : Res} {E : Int} {W W' : World} {N N' : Nd → Prop} (h : OutC w0 g sl n M p lo lvl R E W N) (hr : ∀ M' p', RD w0 g sl n W M' p' → RD w0 g sl n W' M' p') (hn : ∀ d, N d → N' d) : OutC w0 g sl n M p lo lvl R E W' N' := by
 obtain ⟨M', p', h1, h2⟩ := h
 refine ⟨M', p', hr _ _ h1, ?_⟩
 rcases h2 with ⟨h2, h3, h4, d, h5, h6⟩ | h2
 ·exact .inl ⟨h2, h3, h4, d, h5, hn d h6⟩
 ·exact .inr h2
section
variable {w0 w w2 W : World} {g n p lo lvl : Nat} {sl : Value} {M M2 : List Ln} {R : Res} {E : Int}
theorem RD.box {p2 b : Nat} (h : RD w0 g sl n w M p) (h2 : RD w0 g sl n W M2 p2) (hb : w.heap.size ≤ b) (c0 c1 c2 c3 : Value) : RD w0 g sl n (p4 W b c0 c1 c2 c3) M2 p2 := by
 have hlt := h.lt
 have how := fun k hk => (h.own k hk).2
 have hbs := h.base.size
 obtain ⟨⟨a1, a2⟩, a3, a4, a5⟩ := h2
 exact ⟨⟨below_p4 a1 (by omega) _ _ _ _, a2⟩, a3, (p4_oth g (by omega) _ _ _ _).trans a4, owns_keep a5 fun k hk => p4_oth k (by have := how k hk; omega) _ _ _ _⟩
theorem KP.box {b : Nat} (k : KP g sl w W) (hb : w.heap.size ≤ b) (c0 c1 c2 c3 : Value) : KP g sl w (p4 W b c0 c1 c2 c3) :=
 ⟨k.os, k.tape, k.output, by rw [p4_size]; exact k.size, fun i hi h1 h2 => (p4_oth i (by omega) _ _ _ _).trans (k.block i hi h1 h2)⟩
theorem out_end {k : Int} {t : ByteArray} {a : Option Addr} {i c : Nat} {A : Option Addr} {m q : Nat} (h : RD w0 g sl n w M2 p) (hk : KP g sl w W)
  (hc : OutC w0 g sl n M p lo lvl R E W (fun d => NdC (fun b => w.heap.size + 1 ≤ b ∧ b < W.heap.size) W d (.int .i64 k) (.string t) (.slice a i c) (.slice A m q))) :
  Out w0 g sl n M p lo lvl R w (.returned (.tuple #[.agg #[.int .i64 k, .string t, .slice a i c, .slice A m q], .int .i64 E])) (p4 W w.heap.size (.int .i64 k) (.string t) (.slice a i c) (.slice A m q)) :=
 ⟨k, t, a, i, c, A, m, q, E, rfl, hk.box (Nat.le_refl _) _ _ _ _, hc.imp (fun M' p' h' => h.box h' (Nat.le_refl _) _ _ _ _) fun d hd => NdC.keep (fun b hx => ⟨⟨by have := hx.1; omega, by rw [p4_size]; exact hx.2⟩, p4_oth b (by have := hx.1; omega) _ _ _ _⟩) _ hd⟩
theorem out_bad {M' : List Ln} {p' : Nat} {y : Ln} {l : List Ln} {k : Int} {t : ByteArray} {a : Option Addr} {i c : Nat} {A : Option Addr} {m q : Nat} (h : RD w0 g sl n w M2 p) (hk : KP g sl w W) (h2 : RD w0 g sl n W M' p') (hE : E ≠ 0) (hR : R = .bad y.no E) (hd : M'.drop p' = y :: l) :
  Out w0 g sl n M p lo lvl R w (.returned (.tuple #[.agg #[.int .i64 k, .string t, .slice a i c, .slice A m q], .int .i64 E])) (p4 W w.heap.size (.int .i64 k) (.string t) (.slice a i c) (.slice A m q)) :=
 out_end h hk ⟨M', p', h2, .inr ⟨hE, y, l, hR, hd⟩⟩
theorem RD.at_lt (h : RD w0 g sl n w M p) {x : Ln} {l : List Ln} (hx : M.drop p = x :: l) : p < n := by
 have h1 := h.2.1.1
 rcases Nat.lt_or_ge p n with h2 | h2
 ·exact h2
 ·rw [List.drop_of_length_le (by omega)] at hx; cases hx
theorem RD.n_le (h : RD w0 g sl n w M p) : n ≤ 100000 := by have h1 := h.2.1.1; have h2 := h.2.1.2.2.1; omega
theorem isDone_any (h : RD w0 g sl n w M p) (b : Bool) (hb : decide (p = n) = b) :
  Calls Tryz.prog 51 #[.pointer (some ⟨g, 0, none⟩)] w fun e w' => e = .returned (.bool b) ∧ ∃ q, w' = w.drewN q := by
 obtain ⟨c0, c1, -⟩ := h.cells
 obtain ⟨a, c, rfl⟩ := h.shape
 have p1 : ((p : Int) == (n : Int)) = b := by
  rw [← hb, Bool.eq_iff_iff, beq_iff_eq, decide_eq_true_iff]; omega
 clear h hb
 go_enter Tryz.func51, Tryz.ntmps51
 go_wp2
 go_quiet (fail)
 go_wp2
 go_ret
 exact ⟨rfl, _, rfl⟩
theorem isDone_q (h : RD w0 g sl n w M p) (b : Bool) (hb : decide (p = n) = b) (m : Nat) :
  Calls Tryz.prog 51 #[.pointer (some ⟨g, 0, none⟩)] (w.drewN m) fun e w' => e = .returned (.bool b) ∧ ∃ q, w' = w.drewN q :=
 Calls.quiet_of (isDone_any (h.go (below_drewN w m)) b hb)
end
section
variable {w0 w : World} {g n p lvl : Nat} {sl : Value} {M : List Ln} {R : Res} {x : Ln} {l : List Ln}
theorem readValue_any (h : RD w0 g sl n w M p) (hx : M.drop p = x :: l) (s : ByteArray) (hs : s.size ≤ 500000) (hR : valL s.data.toList x.no = R) :
  Calls Tryz.prog 76 #[.pointer (some ⟨g, 0, none⟩), .string s] w (Out w0 g sl n M p (p + 1) lvl R w) := by
 have hpn := h.at_lt hx
 have hn := h.n_le
 have hgw := h.lt
 have hb0 : Below w.heap.size w (w.alloc (.cells #[.int .i64 0, .string ⟨#[]⟩, .slice none 0 0, .slice none 0 0] 25)) := (Below.refl _ _).alloc (Nat.le_refl _) _
 have hs0 : (w.alloc (.cells #[.int .i64 0, .string ⟨#[]⟩, .slice none 0 0, .slice none 0 0] 25)).heap.size = w.heap.size + 1 := by simp
 have HR0 := hid (Row4.make w 25 (.int .i64 0) (.string ⟨#[]⟩) (.slice none 0 0) (.slice none 0 0))
 have HV := hid (fun W => value10_any s W hs x.no R hR)
 have HB0 := hid hb0
 have HS0 := hid hs0
 have HD := hid h
 have HD0 := hid (h.go hb0)
 have HX := hid hx
 have wp : IntKind.i64.wrap ((p : Int) + 1) = (p : Int) + 1 := IntWalk.i64_in _ (by omega)
 have HGW := hid hgw
 clear hR hb0 hs0 h hx
 generalize hW1 : w.alloc (.cells #[.int .i64 0, .string ⟨#[]⟩, .slice none 0 0, .slice none 0 0] 25) = W1 at *
 go_enter Tryz.func76, Tryz.ntmps76
 go_wp2_with fail
 refine (HV.out _).mono ?_
 rintro e w2 ⟨k, t, a, i, c, A, m, q, E, rfl, hb, hc⟩
 have hal : Below w2.heap.size w2 (w2.alloc (.cells #[.int .i64 k, .string t, .slice a i c, .slice A m q] 25)) := (Below.refl _ _).alloc (Nat.le_refl _) _
 have hb3 : Below W1.heap.size W1 (w2.alloc (.cells #[.int .i64 k, .string t, .slice a i c, .slice A m q] 25)) := hb.trans (hal.mono hb.size)
 have HX3 := hid (HR0.out.below hb3 HR0.out.lt)
 have HY3 := hid (Row4.make w2 25 (.int .i64 k) (.string t) (.slice a i c) (.slice A m q))
 have HD3 := hid (HD0.out.go hb3)
 have HK3 : Hid (KP g sl w (w2.alloc (.cells #[.int .i64 k, .string t, .slice a i c, .slice A m q] 25))) := hid (KP.of (HB0.out.trans (hb3.mono HB0.out.size)))
 have HSZ : Hid (W1.heap.size ≤ w2.heap.size) := hid hb.size
 have HN3 : Hid ((E = 0 ∧ ∃ d, R = .ok d 1 ∧ NdC (fun b => W1.heap.size ≤ b ∧ b < w2.heap.size) (w2.alloc (.cells #[.int .i64 k, .string t, .slice a i c, .slice A m q] 25)) d (.int .i64 k) (.string t) (.slice a i c) (.slice A m q)) ∨ (E ≠ 0 ∧ R = .bad x.no E)) := hid (by
  rcases hc with ⟨h1, d, h2, h3⟩ | hc
  ·exact .inl ⟨h1, d, h2, NdC.keep (fun b hx => ⟨hx, hal.block b hx.2⟩) _ h3⟩
  ·exact .inr hc)
 clear hb hc hal hb3 HR0 hW1 HV HB0 HD0
 go_upto_region 2 with fail
 have HS3 : Hid ((w2.alloc (.cells #[.int .i64 k, .string t, .slice a i c, .slice A m q] 25)).heap.size = w2.heap.size + 1) := hid (by simp)
 have HG3 : Hid (w.heap.size < w2.heap.size) := hid (by have h1 := HSZ.out; rw [HS0.out] at h1; omega)
 generalize w2.alloc (.cells #[.int .i64 k, .string t, .slice a i c, .slice A m q] 25) = W3 at *
 generalize w2.heap.size = b3 at *
 by_cases hE : E = 0
 ·subst hE
  have hN : ∃ d, R = .ok d 1 ∧ NdC (fun b => W1.heap.size ≤ b ∧ b < b3) W3 d (.int .i64 k) (.string t) (.slice a i c) (.slice A m q) := by
   rcases HN3.out with ⟨-, h⟩ | ⟨h, -⟩
   ·exact h
   ·exact absurd rfl h
  have HN := hid hN
  obtain ⟨hsk, kps⟩ := HD3.out.next hpn
  obtain ⟨c0, c1, f1⟩ := HD3.out.cells
  have HX4 : Hid (Row4 (W3.setCell ⟨g, 1, none⟩ (.int .i64 ((p : Int) + 1))) w.heap.size 25 (.int .i64 0) (.string ⟨#[]⟩) (.slice none 0 0) (.slice none 0 0)) := hid ((set_oth _ _ _ _ (by have := HGW.out; show w.heap.size ≠ g; omega)).trans HX3.out)
  have HY4 : Hid (Row4 (W3.setCell ⟨g, 1, none⟩ (.int .i64 ((p : Int) + 1))) b3 25 (.int .i64 k) (.string t) (.slice a i c) (.slice A m q)) := hid ((set_oth _ _ _ _ (by have := HGW.out; have := HG3.out; show b3 ≠ g; omega)).trans HY3.out)
  have HK4 := hid (HK3.out.trans kps)
  have HD4 := hid hsk
  have HN4 : Hid (∃ d, R = .ok d 1 ∧ NdC (fun b => w.heap.size + 1 ≤ b ∧ b < (W3.setCell ⟨g, 1, none⟩ (.int .i64 ((p : Int) + 1))).heap.size) (W3.setCell ⟨g, 1, none⟩ (.int .i64 ((p : Int) + 1))) d (.int .i64 k) (.string t) (.slice a i c) (.slice A m q)) := hid (by
   obtain ⟨d, h1, h2⟩ := hN
   refine ⟨d, h1, NdC.keep (fun b hx => ?_) _ h2⟩
   have h3 : (W3.setCell ⟨g, 1, none⟩ (.int .i64 ((p : Int) + 1))).heap.size = W3.heap.size := by simp [World.setCell]
   have h4 := HS3.out
   have h5 := HS0.out
   have h6 := HGW.out
   have h7 : b ≠ g := by omega
   exact ⟨⟨by omega, by omega⟩, set_oth _ _ _ _ h7⟩)
  clear hN hsk kps HX3 HY3 HN3 HN HK3
  go_upto_region 5 with fail
  generalize W3.setCell ⟨g, 1, none⟩ (.int .i64 ((p : Int) + 1)) = W4 at *
  clear c0 c1 f1
  obtain ⟨r0, r1, r2, r3⟩ := HX4.out.cells
  obtain ⟨fr0, fr1, fr2, fr3⟩ := HX4.out.frozen
  obtain ⟨z0, z1, z2, z3⟩ := HY4.out.cells
  go_wp2
  refine bodyPost_ret (v := .tuple #[.agg #[.int .i64 k, .string t, .slice a i c, .slice A m q], .int .i64 0]) (by simp [results, Tryz.results76, go_sem, r0, r1, r2, r3]) rfl ?_
  refine out_end HD.out HK4.out ⟨M, p + 1, HD4.out, .inl ⟨rfl, Nat.le_refl _, rfl, ?_⟩⟩
  obtain ⟨d, h1, h2⟩ := HN4.out
  exact ⟨d, .inl (by rw [h1, show p + 1 - p = 1 by omega]), h2⟩
 ·have p1 : (E == 0) = false := beq_eq_false_iff_ne.2 hE
  have HE := hid hE
  have hRb : R = .bad x.no E := by
   rcases HN3.out with ⟨h, -⟩ | ⟨-, h⟩
   ·exact absurd h hE
   ·exact h
  have HRB := hid hRb
  clear hRb hE HN3 HY3
  obtain ⟨r0, r1, r2, r3⟩ := HX3.out.cells
  obtain ⟨fr0, fr1, fr2, fr3⟩ := HX3.out.frozen
  go_wp2
  refine bodyPost_ret (v := .tuple #[.agg #[.int .i64 0, .string ⟨#[]⟩, .slice none 0 0, .slice none 0 0], .int .i64 E]) (by simp [results, Tryz.results76, go_sem, r0, r1, r2, r3]) rfl ?_
  exact out_bad HD.out HK3.out HD3.out HE.out HRB.out HX.out
end
end
section
open Go.RowKit Go.Sort
open Nw N8 Q6 F9 B10 Go.ChangeShapes Go.WideShapes
def BOf (N : Nat) : Prop := ∀ (w0 : World) (g : Nat) (sl : Value) (n : Nat) (w : World) (M : List Ln) (p : Nat) (x : Ln) (l : List Ln), SomeMax w0 → RD w0 g sl n w M p → M.drop p = x :: l → 2 * big (x :: l) + 1 ≤ N →
  Calls Tryz.prog 52 #[.pointer (some ⟨g, 0, none⟩)] w (Out w0 g sl n M p (p + 1) x.ind (blkB (x :: l)) w)
theorem OutC.shift {w0 : World} {g n p lvl : Nat} {sl : Value} {M : List Ln} {R : Res} {E : Int} {W : World} {N : Nd → Prop} (h : OutC w0 g sl n M (p + 1) (p + 1) lvl R E W N) : OutC w0 g sl n M p (p + 1) lvl (R.more 1) E W N := by
 obtain ⟨M', p', h1, h2⟩ := h
 refine ⟨M', p', h1, ?_⟩
 rcases h2 with ⟨h2, h3, h4, d, h5, h6⟩ | ⟨h2, y, t, h3, h4⟩
 ·refine .inl ⟨h2, h3, h4, d, ?_, h6⟩
  have := h5.more 1
  rwa [show 1 + (p' - (p + 1)) = p' - p by omega] at this
 ·exact .inr ⟨h2, y, t, by rw [h3]; rfl, h4⟩
theorem OutC.low {w0 : World} {g n p lo lo' lvl lvl' : Nat} {sl : Value} {M : List Ln} {R : Res} {E : Int} {W : World} {N : Nd → Prop} (h : OutC w0 g sl n M p lo lvl R E W N) (hl : lo' ≤ lo) (hv : lvl' ≤ lvl) : OutC w0 g sl n M p lo' lvl' R E W N := by
 obtain ⟨M', p', h1, h2⟩ := h
 refine ⟨M', p', h1, ?_⟩
 rcases h2 with ⟨h2, h3, h4, d, h5, h6⟩ | h2
 ·exact .inl ⟨h2, by omega, h4, d, h5.le hv, h6⟩
 ·exact .inr h2
theorem out_on {w0 w W1 W2 : World} {g n p lo lvl : Nat} {sl : Value} {M M2 : List Ln} {R : Res} {E : Int} {k : Int} {t : ByteArray} {a : Option Addr} {i c : Nat} {A : Option Addr} {m q : Nat} (h : RD w0 g sl n w M2 p) (hk1 : KP g sl w W1) (hs : w.heap.size + 1 ≤ W1.heap.size) (hk2 : KP g sl W1 W2)
  (hc : OutC w0 g sl n M p lo lvl R E W2 (fun d => NdC (fun b => W1.heap.size ≤ b ∧ b < W2.heap.size) W2 d (.int .i64 k) (.string t) (.slice a i c) (.slice A m q))) :
  Out w0 g sl n M p lo lvl R w (.returned (.tuple #[.agg #[.int .i64 k, .string t, .slice a i c, .slice A m q], .int .i64 E])) (p4 W2 w.heap.size (.int .i64 k) (.string t) (.slice a i c) (.slice A m q)) :=
 out_end h (hk1.trans hk2) (hc.imp (fun M' p' h' => h') fun d hd => NdC.keep (fun b hx => ⟨⟨by have := hx.1; omega, hx.2⟩, rfl⟩) _ hd)
theorem RD.row4 {w0 w W1 W2 : World} {g n p b : Nat} {sl : Value} {M : List Ln} {c0 c1 c2 c3 : Value} (h : RD w0 g sl n w M p) (hk : KP g sl W1 W2) (hb : w.heap.size ≤ b) (hr : Row4 W1 b 25 c0 c1 c2 c3) : Row4 W2 b 25 c0 c1 c2 c3 :=
 (hk.block b hr.lt (by have := h.lt; omega) fun e => by have := (h.own b e).2; omega).trans hr
section
variable {w0 w : World} {g n p : Nat} {sl : Value} {M : List Ln}
theorem readInner_nul (h : RD w0 g sl n w M p) (least : Nat) (hr : innR least (M.drop p) = .ok nul 0) (hc : p = n ∨ ∃ x l, M.drop p = x :: l ∧ x.ind < least) :
  Calls Tryz.prog 102 #[.pointer (some ⟨g, 0, none⟩), .int .i64 (least : Int)] w (Out w0 g sl n M p p least (innR least (M.drop p)) w) := by
 have hn := h.n_le
 have hgw := h.lt
 have hb0 : Below w.heap.size w (w.alloc (.cells #[.int .i64 0, .string ⟨#[]⟩, .slice none 0 0, .slice none 0 0] 25)) := (Below.refl _ _).alloc (Nat.le_refl _) _
 have hD0 := h.go hb0
 have HR0 := hid (Row4.make w 25 (.int .i64 0) (.string ⟨#[]⟩) (.slice none 0 0) (.slice none 0 0))
 have HB0 := hid hb0
 have HD := hid h
 have HD0 := hid hD0
 have HRR := hid hr
 obtain ⟨c0, c1, -⟩ := hD0.cells
 obtain ⟨a, c, rfl⟩ := h.shape
 rcases hc with hpn | ⟨x, l, hx, hlt⟩
 ·have HQ := hid (fun m => isDone_q hD0 true (decide_eq_true hpn) m)
  clear hr hD0 h hb0 hpn
  go_enter Tryz.func102, Tryz.ntmps102
  go_wp2
  generalize w.alloc (.cells #[.int .i64 0, .string ⟨#[]⟩, .slice none 0 0, .slice none 0 0] 25) = W1 at *
  go_quiet (first | (go_at_call 51; exact HQ.out _))
  have HX := hid (HR0.out.below (below_drewN W1 nq) HR0.out.lt)
  have HK : Hid (KP g (.slice a n c) w (W1.drewN nq)) := hid ((KP.of HB0.out).go (below_drewN _ _))
  have HD2 := hid (HD0.out.go (below_drewN W1 nq))
  generalize W1.drewN nq = W2 at *
  clear c0 c1
  obtain ⟨r0, r1, r2, r3⟩ := HX.out.cells
  obtain ⟨fr0, fr1, fr2, fr3⟩ := HX.out.frozen
  go_wp2
  refine bodyPost_ret (v := .tuple #[.agg #[.int .i64 0, .string ⟨#[]⟩, .slice none 0 0, .slice none 0 0], .int .i64 0]) (by simp [results, Tryz.results102, go_sem, r0, r1, r2, r3]) rfl ?_
  refine out_end HD.out HK.out ⟨M, p, HD2.out, .inl ⟨rfl, Nat.le_refl _, rfl, nul, .inl (by rw [HRR.out, Nat.sub_self]), nd_nul _ _⟩⟩
 ·have hpn := h.at_lt hx
  have hpl : p < M.length := by rw [h.2.1.1]; exact hpn
  obtain ⟨B, cap, hsl, hcap, hcm, ⟨x0, x1, x2⟩, -⟩ := hD0.row hpl
  have hMx : M[p]'hpl = x := by
   rw [List.drop_eq_getElem_cons hpl] at hx
   injection hx
  rw [hMx] at x1
  injection hsl with hsl _ hcc
  subst hsl
  subst hcc
  have HQ := hid (fun m => isDone_q hD0 false (decide_eq_false (by omega)) m)
  have ltz : (x.ind : Int) < (least : Int) := by omega
  have pz : (0 : Int) ≤ (p : Int) := by omega
  have pn : (p : Int) < (n : Int) := by omega
  obtain ⟨I, hI⟩ : ∃ I : Int, (x.ind : Int) = I := ⟨_, rfl⟩
  rw [hI] at x1 ltz
  clear hr hD0 h hb0 hx hlt hMx x0 x2 hI
  go_enter Tryz.func102, Tryz.ntmps102
  go_wp2
  generalize w.alloc (.cells #[.int .i64 0, .string ⟨#[]⟩, .slice none 0 0, .slice none 0 0] 25) = W1 at *
  go_quiet (first | (go_at_call 51; exact HQ.out _))
  have HX := hid (HR0.out.below (below_drewN W1 nq) HR0.out.lt)
  have HK : Hid (KP g (.slice (some ⟨B, 0, none⟩) n c) w (W1.drewN nq)) := hid ((KP.of HB0.out).go (below_drewN _ _))
  have HD2 := hid (HD0.out.go (below_drewN W1 nq))
  generalize W1.drewN nq = W2 at *
  clear c0 c1 x1
  obtain ⟨r0, r1, r2, r3⟩ := HX.out.cells
  obtain ⟨fr0, fr1, fr2, fr3⟩ := HX.out.frozen
  go_wp2
  refine bodyPost_ret (v := .tuple #[.agg #[.int .i64 0, .string ⟨#[]⟩, .slice none 0 0, .slice none 0 0], .int .i64 0]) (by simp [results, Tryz.results102, go_sem, r0, r1, r2, r3]) rfl ?_
  refine out_end HD.out HK.out ⟨M, p, HD2.out, .inl ⟨rfl, Nat.le_refl _, rfl, nul, .inl (by rw [HRR.out, Nat.sub_self]), nd_nul _ _⟩⟩
theorem readInner_blk {N : Nat} (ih : BOf N) (hm : SomeMax w0) (h : RD w0 g sl n w M p) (least : Nat) {x : Ln} {l : List Ln} (hx : M.drop p = x :: l) (hN : 2 * big (x :: l) + 1 ≤ N) (hlt : least ≤ x.ind) :
  Calls Tryz.prog 102 #[.pointer (some ⟨g, 0, none⟩), .int .i64 (least : Int)] w (Out w0 g sl n M p p least (blkB (x :: l)) w) := by
 have hn := h.n_le
 have hgw := h.lt
 have hb0 : Below w.heap.size w (w.alloc (.cells #[.int .i64 0, .string ⟨#[]⟩, .slice none 0 0, .slice none 0 0] 25)) := (Below.refl _ _).alloc (Nat.le_refl _) _
 have hs0 : (w.alloc (.cells #[.int .i64 0, .string ⟨#[]⟩, .slice none 0 0, .slice none 0 0] 25)).heap.size = w.heap.size + 1 := by simp
 have hD0 := h.go hb0
 have HR0 := hid (Row4.make w 25 (.int .i64 0) (.string ⟨#[]⟩) (.slice none 0 0) (.slice none 0 0))
 have HB0 := hid hb0
 have HS0 := hid hs0
 have HD := hid h
 have HD0 := hid hD0
 have HLT := hid hlt
 obtain ⟨c0, c1, -⟩ := hD0.cells
 obtain ⟨a, c, rfl⟩ := h.shape
 have hpn := h.at_lt hx
 have hpl : p < M.length := by rw [h.2.1.1]; exact hpn
 obtain ⟨B, cap, hsl, hcap, hcm, ⟨x0, x1, x2⟩, -⟩ := hD0.row hpl
 have hMx : M[p]'hpl = x := by
  rw [List.drop_eq_getElem_cons hpl] at hx
  injection hx
 rw [hMx] at x1
 injection hsl with hsl _ hcc
 subst hsl
 subst hcc
 have HQ := hid (fun m => isDone_q hD0 false (decide_eq_false (by omega)) m)
 have HBK : Hid (∀ W, RD w0 g (.slice (some ⟨B, 0, none⟩) n c) n W M p → Calls Tryz.prog 52 #[.pointer (some ⟨g, 0, none⟩)] W (Out w0 g (.slice (some ⟨B, 0, none⟩) n c) n M p (p + 1) x.ind (blkB (x :: l)) W)) := hid fun W hW => ih w0 g _ n W M p x l hm hW hx hN
 have ltz : ¬ (x.ind : Int) < (least : Int) := by omega
 have pz : (0 : Int) ≤ (p : Int) := by omega
 have pn : (p : Int) < (n : Int) := by omega
 obtain ⟨I, hI⟩ : ∃ I : Int, (x.ind : Int) = I := ⟨_, rfl⟩
 rw [hI] at x1 ltz
 obtain ⟨R, hR⟩ : ∃ R, blkB (x :: l) = R := ⟨_, rfl⟩
 rw [hR] at HBK ⊢
 clear hR hD0 h hb0 hx hlt hMx x0 x2 hI hs0 ih hN
 go_enter Tryz.func102, Tryz.ntmps102
 go_wp2
 generalize w.alloc (.cells #[.int .i64 0, .string ⟨#[]⟩, .slice none 0 0, .slice none 0 0] 25) = W1 at *
 go_quiet (first | (go_at_call 51; exact HQ.out _))
 have HX := hid (HR0.out.below (below_drewN W1 nq) HR0.out.lt)
 have HK : Hid (KP g (.slice (some ⟨B, 0, none⟩) n c) w (W1.drewN nq)) := hid ((KP.of HB0.out).go (below_drewN _ _))
 have HD2 := hid (HD0.out.go (below_drewN W1 nq))
 have HS2 : Hid (w.heap.size + 1 ≤ (W1.drewN nq).heap.size) := hid (by rw [← HS0.out]; exact Nat.le_refl _)
 generalize W1.drewN nq = W2 at *
 clear c0 c1 x1
 go_wp2_with fail
 refine (HBK.out _ HD2.out).mono ?_
 rintro e w3 ⟨k, t, a, i, cc, A, m, q, E, rfl, hk, hc⟩
 have HX3 := hid (HD.out.row4 hk (Nat.le_refl _) HX.out)
 have HK3 := hid hk
 have HC := hid hc
 clear hk hc
 obtain ⟨r0, r1, r2, r3⟩ := HX3.out.cells
 obtain ⟨fr0, fr1, fr2, fr3⟩ := HX3.out.frozen
 go_wp2
 refine bodyPost_ret (v := .tuple #[.agg #[.int .i64 k, .string t, .slice a i cc, .slice A m q], .int .i64 E]) (by simp [results, Tryz.results102, go_sem, r0, r1, r2, r3]) rfl ?_
 exact out_on HD.out HK.out HS2.out HK3.out (HC.out.low (by omega) HLT.out)
theorem readInner_any {N : Nat} (ih : BOf N) (hm : SomeMax w0) (h : RD w0 g sl n w M p) (least : Nat) (hN : 2 * big (M.drop p) + 1 ≤ N) :
  Calls Tryz.prog 102 #[.pointer (some ⟨g, 0, none⟩), .int .i64 (least : Int)] w (Out w0 g sl n M p p least (innR least (M.drop p)) w) := by
 cases hx : M.drop p with
 | nil =>
  have h1 : p = n := by
   have h2 := h.2.1.1
   have h3 := h.2.1.2.1
   have h4 := congrArg List.length hx
   rw [List.length_drop] at h4
   have h5 : M.length - p = 0 := h4
   omega
  have := readInner_nul h least (by rw [hx]; rfl) (.inl h1)
  rwa [hx] at this
 | cons x l =>
  rw [hx] at hN
  by_cases hlt : x.ind < least
  ·have := readInner_nul h least (by rw [hx, inn_cons, if_pos hlt]) (.inr ⟨x, l, hx, hlt⟩)
   rwa [hx] at this
  ·have := readInner_blk ih hm h least hx hN (by omega)
   rwa [← if_neg (c := x.ind < least) (t := Res.ok nul 0) (e := blkB (x :: l)) hlt, ← inn_cons] at this
end
end
end Go.Proofs.YtmdgpejedbkkdaaGreatDoor
