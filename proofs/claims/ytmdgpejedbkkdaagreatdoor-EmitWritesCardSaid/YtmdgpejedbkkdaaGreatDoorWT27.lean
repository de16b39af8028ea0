/- FloStk -/
import Derived.Test.YtmdgpejedbkkdaaGreatDoorWT18
import Derived.Test.YtmdgpejedbkkdaaGreatDoorWT26
set_option linter.unusedVariables false
set_option linter.unusedSimpArgs false
set_option maxRecDepth 100000
set_option maxHeartbeats 16000000
namespace Go.Proofs.YtmdgpejedbkkdaaGreatDoor
section
open Go.RowKit Go.Sort
open Nw N8 Q6 F9 Go.ChangeShapes Go.WideShapes
def SF (B lo hi : Nat) (q : Q4) (b : Nat) : Prop := lo ≤ b ∧ b < hi ∧ b ≠ B ∧ q.c.ownBlock ≠ some b ∧ q.d.ownBlock ≠ some b
def FrM (B : Nat) (w : World) (lo hi : Nat) (q : Q4) (f : Fr) : Prop :=
 (q.a = .int .i64 f.k ∧ q.b = .string ⟨#[]⟩) ∧ w.ownsRow lo 9 1 q.c f.ks.length (f.ks.map encStr) ∧ (∃ ps, KO (SF B lo hi q) lo w q.d ps f.ds) ∧
  (∀ b, q.c.ownBlock = some b → b < hi ∧ b ≠ B) ∧ ∀ b, q.d.ownBlock = some b → b < hi ∧ b ≠ B
theorem FrM.keep {B B' lo hi hi' : Nat} {w w' : World} {q : Q4} {f : Fr} (h : FrM B w lo hi q f) (hh : hi ≤ hi') (hk : ∀ b, lo ≤ b → b < hi → b ≠ B → w'.heap[b]? = w.heap[b]? ∧ b ≠ B') : FrM B' w' lo hi' q f := by
 obtain ⟨h1, h3, ⟨ps, h4⟩, h5, h6⟩ := h
 refine ⟨h1, owns_keep h3 fun g hg => ?_, ⟨ps, h4.keep (fun b hb => ?_) fun g hg => ?_⟩, fun b hb => ?_, fun b hb => ?_⟩
 ·exact (hk g (h3.lt g hg).1 (h5 g hg).1 (h5 g hg).2).1
 ·obtain ⟨a1, a2, a3, a4, a5⟩ := hb
  exact ⟨⟨a1, by omega, (hk b a1 a2 a3).2, a4, a5⟩, (hk b a1 a2 a3).1⟩
 ·exact (hk g (h4.1.lt g hg).1 (h6 g hg).1 (h6 g hg).2).1
 ·exact ⟨by have := (h5 b hb).1; omega, (hk b (h3.lt b hb).1 (h5 b hb).1 (h5 b hb).2).2⟩
 ·exact ⟨by have := (h6 b hb).1; omega, (hk b (h4.1.lt b hb).1 (h6 b hb).1 (h6 b hb).2).2⟩
def StM (B : Nat) (w : World) (base : Nat) : Nat → List Q4 → List Fr → Prop
 | hi, [], [] => base ≤ hi
 | hi, q :: qs, f :: S => ∃ lo, lo ≤ hi ∧ FrM B w lo hi q f ∧ StM B w base lo qs S
 | _, _, _ => False
theorem StM.base {B : Nat} {w : World} {base : Nat} : ∀ {hi : Nat} {qs : List Q4} {fs : List Fr}, StM B w base hi qs fs → base ≤ hi
 | hi, [], [], h => h
 | hi, q :: qs, f :: S, h => by obtain ⟨lo, h1, h2, h3⟩ := h; have := StM.base h3; omega
 | hi, [], f :: S, h => h.elim
 | hi, q :: qs, [], h => h.elim
theorem StM.keep {B B' : Nat} {w w' : World} {base : Nat} : ∀ {hi hi' : Nat} {qs : List Q4} {fs : List Fr}, StM B w base hi qs fs → hi ≤ hi' → (∀ b, base ≤ b → b < hi → b ≠ B → w'.heap[b]? = w.heap[b]? ∧ b ≠ B') → StM B' w' base hi' qs fs
 | hi, hi', [], [], h, hh, hk => Nat.le_trans h hh
 | hi, hi', q :: qs, f :: S, h, hh, hk => by
  obtain ⟨lo, h1, h2, h3⟩ := h
  have hb := StM.base h3
  exact ⟨lo, Nat.le_trans h1 hh, h2.keep hh fun b a1 a2 a3 => hk b (by omega) a2 a3, StM.keep h3 (Nat.le_refl _) fun b a1 a2 a3 => hk b a1 (by omega) a3⟩
 | hi, hi', [], f :: S, h, hh, hk => h.elim
 | hi, hi', q :: qs, [], h, hh, hk => h.elim
theorem StM.len {B : Nat} {w : World} {base : Nat} : ∀ {hi : Nat} {qs : List Q4} {fs : List Fr}, StM B w base hi qs fs → qs.length = fs.length
 | hi, [], [], h => rfl
 | hi, q :: qs, f :: S, h => by obtain ⟨lo, h1, h2, h3⟩ := h; rw [List.length_cons, List.length_cons, StM.len h3]
 | hi, [], f :: S, h => h.elim
 | hi, q :: qs, [], h => h.elim
def R2 (w : World) (g : Nat) (a b : Value) : Prop := w.heap[g]? = some (.cells #[a, b] 133 (0, 0))
def RS (b0 g B m n cap : Nat) (w : World) (r : ByteArray) (lo : Nat) (q : Q4) (qs : List Q4) (f : Fr) (S : List Fr) : Prop :=
 (b0 ≤ g ∧ m + 1 = n ∧ qs.length = m ∧ lo ≤ w.heap.size) ∧ R2 w g (.string r) (.slice (some ⟨B, 0, none⟩) n cap) ∧
  w.ownsRow b0 25 4 (.slice (some ⟨B, 0, none⟩) n cap) n (flat4 (q :: qs).reverse) ∧ FrM B w lo w.heap.size q f ∧ StM B w (g + 1) lo qs S
theorem R2.lt {w : World} {g : Nat} {a b : Value} (h : R2 w g a b) : g < w.heap.size := by
 rcases Nat.lt_or_ge g w.heap.size with hl | hl
 ·exact hl
 ·unfold R2 at h; rw [Array.getElem?_eq_none hl] at h; cases h
theorem R2.cells {w : World} {g : Nat} {a b : Value} (h : R2 w g a b) : (w.cell? ⟨g, 0, none⟩ = some a ∧ w.cell? ⟨g, 1, none⟩ = some b) ∧ w.frozen? ⟨g, 0, none⟩ = false ∧ w.frozen? ⟨g, 1, none⟩ = false := by
 unfold R2 at h
 refine ⟨⟨?_, ?_⟩, ?_, ?_⟩
 ·rw [cell_of_row _ _ 0 _ _ _ h]; rfl
 ·rw [cell_of_row _ _ 1 _ _ _ h]; rfl
 ·simp [World.frozen?, h]
 ·simp [World.frozen?, h]
section
variable {b0 g B m n cap lo : Nat} {w w' w1 w2 : World} {r r' : ByteArray} {q : Q4} {qs : List Q4} {f : Fr} {S : List Fr}
theorem RS.lt (h : RS b0 g B m n cap w r lo q qs f S) : g < w.heap.size ∧ B < w.heap.size ∧ b0 ≤ B ∧ g + 1 ≤ lo := ⟨h.2.1.lt, (h.2.2.1.lt B rfl).2, (h.2.2.1.lt B rfl).1, h.2.2.2.2.base⟩
theorem RS.apart (h : RS b0 g B m n cap w r lo q qs f S) : B ≠ g := by
 rintro rfl
 obtain ⟨-, h1, h2, -⟩ := h
 rcases h2.2 with ⟨h0, _⟩ | ⟨g1, cap1, cur, e1, _, e3, _⟩
 ·cases h0
 ·injection e1 with e1 _ _
  injection e1 with e1
  injection e1 with e1 _ _
  subst e1
  unfold R2 at h1
  rw [h1] at e3
  injection e3 with e3
  injection e3 with _ e4 _
  exact absurd e4 (by decide)
theorem RS.below_g (h : RS b0 g B m n cap w r lo q qs f S) : b0 ≤ g := h.1.1
theorem RS.go (h : RS b0 g B m n cap w r lo q qs f S) (hb : Below w.heap.size w w') : RS b0 g B m n cap w' r lo q qs f S := by
 have hlt := h.lt
 have hs := hb.size
 obtain ⟨⟨h1, h2, h3, h4⟩, h5, h6, h7, h8⟩ := h
 exact ⟨⟨h1, h2, h3, by omega⟩, (hb.block g hlt.1).trans h5, owns_below h6 hb, h7.keep hs fun b _ a2 a3 => ⟨hb.block b a2, a3⟩, h8.keep (Nat.le_refl _) fun b _ a2 a3 => ⟨hb.block b (by omega), a3⟩⟩
theorem RS.text (h : RS b0 g B m n cap w r lo q qs f S) (r' : ByteArray) : RS b0 g B m n cap (w.setCell ⟨g, 0, none⟩ (.string r')) r' lo q qs f S := by
 have hlt := h.lt
 have hne := h.apart
 have hsz : (w.setCell ⟨g, 0, none⟩ (.string r')).heap.size = w.heap.size := by simp [World.setCell]
 have hk : ∀ b, b ≠ g → (w.setCell ⟨g, 0, none⟩ (.string r')).heap[b]? = w.heap[b]? := fun b hb => Below.heap_setCell _ _ _ b hb
 obtain ⟨⟨h1, h2, h3, h4⟩, h5, h6, h7, h8⟩ := h
 refine ⟨⟨h1, h2, h3, by omega⟩, Lib.heap_setCell_same (i := 0) h5 _, owns_keep h6 fun b hb => hk b ?_, ?_, h8.keep (Nat.le_refl _) fun b a1 _ a3 => ⟨hk b (by omega), a3⟩⟩
 ·rintro rfl
  injection hb with hb
  exact hne hb
 ·rw [hsz]
  exact h7.keep (Nat.le_refl _) fun b a1 _ a3 => ⟨hk b (by omega), a3⟩
theorem below_text {c : Nat} (h : Below c w1 w) (hg : c ≤ g) (r' : ByteArray) : Below c w1 (w.setCell ⟨g, 0, none⟩ (.string r')) := h.setCell (p := ⟨g, 0, none⟩) hg _
theorem flat_top (q : Q4) (qs : List Q4) : flat4 (q :: qs).reverse = flat4 qs.reverse ++ [q.a, q.b, q.c, q.d] := by rw [List.reverse_cons, flat4_app]; rfl
theorem RS.cells (h : RS b0 g B m n cap w r lo q qs f S) : (w.cell? ⟨g, 0, none⟩ = some (.string r) ∧ w.cell? ⟨g, 1, none⟩ = some (.slice (some ⟨B, 0, none⟩) n cap)) ∧ w.frozen? ⟨g, 0, none⟩ = false ∧ w.frozen? ⟨g, 1, none⟩ = false := h.2.1.cells
theorem RS.top (h : RS b0 g B m n cap w r lo q qs f S) : (w.cell? ⟨B, m * 4, none⟩ = some (.int .i64 f.k) ∧ w.cell? ⟨B, m * 4 + 1, none⟩ = some (.string ⟨#[]⟩) ∧ w.cell? ⟨B, m * 4 + 2, none⟩ = some q.c ∧ w.cell? ⟨B, m * 4 + 3, none⟩ = some q.d) ∧
  w.frozen? ⟨B, m * 4 + 2, none⟩ = false ∧ w.frozen? ⟨B, m * 4 + 3, none⟩ = false := by
 obtain ⟨⟨h1, rfl, rfl, h4⟩, h5, h6, ⟨⟨e1, e2⟩, -⟩, h8⟩ := h
 have hl : (flat4 qs.reverse).length = qs.length * 4 := by rw [flat4_len, List.length_reverse]
 rw [flat_top] at h6
 rw [← e1, ← e2]
 have key : ∀ j, j < 4 → w.cell? ⟨B, qs.length * 4 + j, none⟩ = [q.a, q.b, q.c, q.d][j]? := fun j hj => by
  rw [h6.cellAt _ (by omega), List.getElem?_append_right (by omega), hl, Nat.add_sub_cancel_left]
 exact ⟨⟨key 0 (by omega), key 1 (by omega), key 2 (by omega), key 3 (by omega)⟩, h6.frozenAt _, h6.frozenAt _⟩
theorem RS.nums (h : RS b0 g B m n cap w r lo q qs f S) : m + 1 = n ∧ qs.length = m ∧ n ≤ cap ∧ cap ≤ maxLen ∧ S.length = m := by
 obtain ⟨⟨h1, h2, h3, h4⟩, h5, h6, h7, h8⟩ := h
 refine ⟨h2, h3, ?_, ?_, h8.len.symm.trans h3⟩
 ·rcases h6.2 with ⟨h0, _⟩ | ⟨g1, cap1, cur, e1, _, _, e4, e5, _⟩
  ·cases h0
  ·injection e1 with _ _ e1; subst e1; exact e4
 ·rcases h6.2 with ⟨h0, _⟩ | ⟨g1, cap1, cur, e1, _, _, e4, e5, _⟩
  ·cases h0
  ·injection e1 with _ _ e1; subst e1; exact e5
theorem RS.shapes (h : RS b0 g B m n cap w r lo q qs f S) : (∃ a c, q.c = .slice a f.ks.length c) ∧ ∃ a c, q.d = .slice a f.ds.length c := ⟨own_shape h.2.2.2.1.2.1, own_shape h.2.2.2.1.2.2.1.choose_spec.1⟩
theorem RS.keys_rd (h : RS b0 g B m n cap w r lo q qs f S) : Rd w q.c f.ks := rd_of_owns h.2.2.2.1.2.1
theorem RS.push (h : RS b0 g B m n cap w r lo q qs f S) (hb : Below w.heap.size w w1) {k : Int} {B' cap' : Nat} {xs : List Value}
  (ho : w2.ownsRow b0 25 4 (.slice (some ⟨B', 0, none⟩) (n + 1) cap') (n + 1) xs) (hxs : xs = flat4 (q :: qs).reverse ++ [.int .i64 0, .string ⟨#[]⟩, .slice none 0 0, .slice none 0 0])
  (hg : w1.grownBy w2 (some B)) (hk : B' = B ∨ B' = w1.heap.size) :
  RS b0 g B' n (n + 1) cap' ((((((w2.setCell ⟨B', n * 4, none⟩ (.int .i64 k)).setCell ⟨B', n * 4 + 1, none⟩ (.string ⟨#[]⟩)).setCell ⟨B', n * 4 + 2, none⟩ (.slice none 0 0)).setCell ⟨B', n * 4 + 3, none⟩ (.slice none 0 0))).setCell ⟨g, 1, none⟩ (.slice (some ⟨B', 0, none⟩) (n + 1) cap')) r
   w2.heap.size ⟨.int .i64 k, .string ⟨#[]⟩, .slice none 0 0, .slice none 0 0⟩ (q :: qs) ⟨k, [], []⟩ (f :: S) := by
 have hlt := h.lt
 have hne := h.apart
 have hs := hb.size
 have hs2 := hg.size
 obtain ⟨⟨h1, h2, h3, h4⟩, h5, h6, h7, h8⟩ := h
 subst hxs
 have hB' : B' ≠ g := by omega
 obtain ⟨W, hW⟩ : ∃ W, (((w2.setCell ⟨B', n * 4, none⟩ (.int .i64 k)).setCell ⟨B', n * 4 + 1, none⟩ (.string ⟨#[]⟩)).setCell ⟨B', n * 4 + 2, none⟩ (.slice none 0 0)).setCell ⟨B', n * 4 + 3, none⟩ (.slice none 0 0) = W := ⟨_, rfl⟩
 have hWs : W.heap.size = w2.heap.size := by rw [← hW]; simp [World.setCell]
 have hWk : ∀ b, b ≠ B' → W.heap[b]? = w2.heap[b]? := fun b hb' => by
  rw [← hW, Below.heap_setCell _ _ _ _ (by exact hb'), Below.heap_setCell _ _ _ _ (by exact hb'), Below.heap_setCell _ _ _ _ (by exact hb'), Below.heap_setCell _ _ _ _ (by exact hb')]
 have hWo := ((((ho.stored (n * 4) (.int .i64 k)).1.stored (n * 4 + 1) (.string ⟨#[]⟩)).1.stored (n * 4 + 2) (.slice none 0 0)).1.stored (n * 4 + 3) (.slice none 0 0)).1
 rw [hW] at hWo ⊢
 have hl : (flat4 (q :: qs).reverse).length = n * 4 := by rw [flat4_len, List.length_reverse, List.length_cons]; omega
 have hxe : ((((flat4 (q :: qs).reverse ++ [Value.int .i64 0, .string ⟨#[]⟩, .slice none 0 0, .slice none 0 0]).set (n * 4) (.int .i64 k)).set (n * 4 + 1) (.string ⟨#[]⟩)).set (n * 4 + 2) (.slice none 0 0)).set (n * 4 + 3) (.slice none 0 0) = flat4 ((⟨.int .i64 k, .string ⟨#[]⟩, .slice none 0 0, .slice none 0 0⟩ : Q4) :: q :: qs).reverse := by
  rw [flat_top ⟨.int .i64 k, .string ⟨#[]⟩, .slice none 0 0, .slice none 0 0⟩ (q :: qs)]
  rw [List.set_append_right _ _ (by omega), List.set_append_right _ _ (by omega), List.set_append_right _ _ (by omega), List.set_append_right _ _ (by omega), hl]
  simp only [Nat.sub_self, Nat.add_sub_cancel_left]
  rfl
 rw [hxe] at hWo
 have hk2 : ∀ b, b < w.heap.size → b ≠ B → w2.heap[b]? = w.heap[b]? := fun b b1 b2 => (hg.block b (by omega) fun e => b2 (by injection e)).trans (hb.block b b1)
 have hgw : W.heap[g]? = w.heap[g]? := (hWk g (fun e => hB' e.symm)).trans (hk2 g hlt.1 fun e => hne e.symm)
 have hZ : ∀ b, b ≠ g → (W.setCell ⟨g, 1, none⟩ (.slice (some ⟨B', 0, none⟩) (n + 1) cap')).heap[b]? = W.heap[b]? := fun b hb' => Below.heap_setCell _ _ _ b hb'
 have hZs : (W.setCell ⟨g, 1, none⟩ (.slice (some ⟨B', 0, none⟩) (n + 1) cap')).heap.size = W.heap.size := by simp [World.setCell]
 have hall : ∀ b, g + 1 ≤ b → b < w.heap.size → b ≠ B → (W.setCell ⟨g, 1, none⟩ (.slice (some ⟨B', 0, none⟩) (n + 1) cap')).heap[b]? = w.heap[b]? ∧ b ≠ B' := fun b b0' b1 b2 => by
  have hbB : b ≠ B' := by omega
  exact ⟨(hZ b (by omega)).trans ((hWk b hbB).trans (hk2 b b1 b2)), hbB⟩
 refine ⟨⟨h1, rfl, by rw [List.length_cons]; omega, by rw [hZs, hWs]; exact Nat.le_refl _⟩, Lib.heap_setCell_same (i := 1) (hgw.trans h5) _, owns_keep hWo fun b hb' => hZ b ?_, ?_, lo, by omega, h7.keep (by omega) fun b a1 a2 a3 => hall b (by omega) a2 a3, h8.keep (Nat.le_refl _) fun b a1 a2 a3 => hall b a1 (by omega) a3⟩
 ·rintro rfl
  injection hb' with hb'
  exact hB' hb'
 ·exact ⟨⟨rfl, rfl⟩, World.ownsRow_nil _ _ _ _, ⟨[], World.ownsRow_nil _ _ _ _, rfl, fun j hj => absurd hj (Nat.not_lt_zero _)⟩, fun b hb' => (by cases hb'), fun b hb' => (by cases hb')⟩
theorem set_top {w : World} {b0 B m n cap : Nat} {q q' : Q4} {qs : List Q4} (h : w.ownsRow b0 25 4 (.slice (some ⟨B, 0, none⟩) n cap) n (flat4 (q :: qs).reverse)) (hm : qs.length = m) {i : Nat} {u : Value}
  (hi : [q.a, q.b, q.c, q.d].set i u = [q'.a, q'.b, q'.c, q'.d]) : (w.setCell ⟨B, m * 4 + i, none⟩ u).ownsRow b0 25 4 (.slice (some ⟨B, 0, none⟩) n cap) n (flat4 (q' :: qs).reverse) := by
 have h1 := (h.stored (m * 4 + i) u).1
 have hl : (flat4 qs.reverse).length = m * 4 := by rw [flat4_len, List.length_reverse, hm]
 rw [flat_top, List.set_append_right _ _ (by omega), hl, Nat.add_sub_cancel_left, hi, ← flat_top] at h1
 exact h1
theorem RS.key (h : RS b0 g B m n cap w r lo q qs f S) (hb : Below w.heap.size w w1) {x : L8} {s' : Value} {xs : List Value} {n' : Nat} (hn : n' = (f.ks ++ [x]).length) (hxs : xs = (f.ks ++ [x]).map encStr)
  (ho : w2.ownsRow lo 9 1 s' n' xs) (hg : w1.grownBy w2 q.c.ownBlock) (hk : s'.ownBlock = q.c.ownBlock ∨ s'.ownBlock = some w1.heap.size) :
  RS b0 g B m n cap (w2.setCell ⟨B, m * 4 + 2, none⟩ s') r lo ⟨q.a, q.b, s', q.d⟩ qs (f.key x) S := by
 have hlt := h.lt
 have hne := h.apart
 have hs := hb.size
 have hs2 := hg.size
 obtain ⟨⟨h1, h2, h3, h4⟩, h5, h6, ⟨h70, h71, ⟨ps, h72⟩, h73, h74⟩, h8⟩ := h
 subst hn; subst hxs
 have hZ : ∀ b, b ≠ B → (w2.setCell ⟨B, m * 4 + 2, none⟩ s').heap[b]? = w2.heap[b]? := fun b hb' => Below.heap_setCell _ _ _ b hb'
 have hZs : (w2.setCell ⟨B, m * 4 + 2, none⟩ s').heap.size = w2.heap.size := by simp [World.setCell]
 have hc : ∀ b, q.c.ownBlock = some b → lo ≤ b := fun b hb' => (h71.lt b hb').1
 have h2k : ∀ b, b < w.heap.size → q.c.ownBlock ≠ some b → w2.heap[b]? = w.heap[b]? := fun b b1 b2 => (hg.block b (by omega) fun e => b2 e.symm).trans (hb.block b b1)
 have hall : ∀ b, b < w.heap.size → b ≠ B → q.c.ownBlock ≠ some b → (w2.setCell ⟨B, m * 4 + 2, none⟩ s').heap[b]? = w.heap[b]? := fun b b1 b2 b3 => (hZ b b2).trans (h2k b b1 b3)
 have hBc : q.c.ownBlock ≠ some B := fun e => (h73 B e).2 rfl
 have hs'lt : ∀ b, s'.ownBlock = some b → b < w2.heap.size ∧ b ≠ B := fun b hb' => by
  refine ⟨(ho.lt b hb').2, ?_⟩
  rcases hk with hk | hk
  ·exact (h73 b (hk.symm.trans hb')).2
  ·rw [hk] at hb'
   injection hb' with hb'
   omega
 refine ⟨⟨h1, h2, h3, by omega⟩, ?_, set_top (owns_keep h6 fun b hb' => h2k b ?_ ?_) h3 rfl, ⟨h70, owns_keep ho fun b hb' => hZ b (hs'lt b hb').2, ⟨ps, h72.keep (fun b hx => ?_) fun b hb' => ?_⟩, fun b hb' => ?_, fun b hb' => ?_⟩, h8.keep (Nat.le_refl _) fun b a1 a2 a3 => ⟨hall b (by omega) a3 fun e => by have := hc b e; omega, a3⟩⟩
 ·exact (hall g hlt.1 (fun e => hne e.symm) fun e => by have := hc g e; omega).trans h5
 ·injection hb' with hb'; subst hb'; exact hlt.2.1
 ·injection hb' with hb'; subst hb'; exact hBc
 ·obtain ⟨a1, a2, a3, a4, a5⟩ := hx
  refine ⟨⟨a1, by omega, a3, fun e => ?_, a5⟩, hall b a2 a3 a4⟩
  rcases hk with hk | hk
  ·exact a4 (hk.symm.trans e)
  ·have e := hk.symm.trans e
   injection e with e
   omega
 ·exact hall b (h72.1.lt b hb').2 (h74 b hb').2 (owns_apart h72.1 h71 (by decide) hb')
 ·have := hs'lt b hb'
  exact ⟨by omega, this.2⟩
 ·have := h74 b hb'
  exact ⟨by omega, this.2⟩
theorem RS.kid (h : RS b0 g B m n cap w r lo q qs f S) (hb : Below w.heap.size w w1) {d : Nd} {e : Q4} {gb cap' n' : Nat} {xs : List Value} {ps : List Q4} (hko : KO (SF B lo w.heap.size q) lo w q.d ps f.ds) (hn : f.ds.length = n')
  (hxs : xs = flat4 ps ++ [.int .i64 0, .string ⟨#[]⟩, .slice none 0 0, .slice none 0 0])
  (ho : w2.ownsRow lo 25 4 (.slice (some ⟨gb, 0, none⟩) (n' + 1) cap') (n' + 1) xs) (hg : w1.grownBy w2 q.d.ownBlock) (hk : some gb = q.d.ownBlock ∨ gb = w1.heap.size) (he : NdC (SF B lo w.heap.size q) w d e.a e.b e.c e.d) :
  RS b0 g B m n cap ((((((w2.setCell ⟨gb, n' * 4, none⟩ e.a).setCell ⟨gb, n' * 4 + 1, none⟩ e.b).setCell ⟨gb, n' * 4 + 2, none⟩ e.c).setCell ⟨gb, n' * 4 + 3, none⟩ e.d)).setCell ⟨B, m * 4 + 3, none⟩ (.slice (some ⟨gb, 0, none⟩) (n' + 1) cap')) r
   lo ⟨q.a, q.b, q.c, .slice (some ⟨gb, 0, none⟩) (n' + 1) cap'⟩ qs (f.add d) S := by
 have hlt := h.lt
 have hne := h.apart
 have hs := hb.size
 have hs2 := hg.size
 obtain ⟨⟨h1, h2, h3, h4⟩, h5, h6, ⟨h70, h71, -, h73, h74⟩, h8⟩ := h
 subst hn; subst hxs
 have hglt := ho.lt gb rfl
 have hgB : gb ≠ B := by
  rcases hk with hk | hk
  ·exact (h74 gb hk.symm).2
  ·omega
 obtain ⟨W, hW⟩ : ∃ W, (((w2.setCell ⟨gb, f.ds.length * 4, none⟩ e.a).setCell ⟨gb, f.ds.length * 4 + 1, none⟩ e.b).setCell ⟨gb, f.ds.length * 4 + 2, none⟩ e.c).setCell ⟨gb, f.ds.length * 4 + 3, none⟩ e.d = W := ⟨_, rfl⟩
 have hWs : W.heap.size = w2.heap.size := by rw [← hW]; simp [World.setCell]
 have hWk : ∀ b, b ≠ gb → W.heap[b]? = w2.heap[b]? := fun b hb' => by
  rw [← hW, Below.heap_setCell _ _ _ _ (by exact hb'), Below.heap_setCell _ _ _ _ (by exact hb'), Below.heap_setCell _ _ _ _ (by exact hb'), Below.heap_setCell _ _ _ _ (by exact hb')]
 have hWo := ((((ho.stored (f.ds.length * 4) e.a).1.stored (f.ds.length * 4 + 1) e.b).1.stored (f.ds.length * 4 + 2) e.c).1.stored (f.ds.length * 4 + 3) e.d).1
 rw [hW] at hWo ⊢
 have hl : (flat4 ps).length = f.ds.length * 4 := by rw [flat4_len, hko.2.1]
 have hxe : ((((flat4 ps ++ [Value.int .i64 0, .string ⟨#[]⟩, .slice none 0 0, .slice none 0 0]).set (f.ds.length * 4) e.a).set (f.ds.length * 4 + 1) e.b).set (f.ds.length * 4 + 2) e.c).set (f.ds.length * 4 + 3) e.d = flat4 (ps ++ [e]) := by
  rw [flat4_app]
  rw [List.set_append_right _ _ (by omega), List.set_append_right _ _ (by omega), List.set_append_right _ _ (by omega), List.set_append_right _ _ (by omega), hl]
  simp only [Nat.sub_self, Nat.add_sub_cancel_left]
  rfl
 rw [hxe] at hWo
 have hd : ∀ b, q.d.ownBlock = some b → lo ≤ b := fun b hb' => (hko.1.lt b hb').1
 have h2k : ∀ b, b < w.heap.size → q.d.ownBlock ≠ some b → b ≠ gb ∧ W.heap[b]? = w.heap[b]? := fun b b1 b2 => by
  have hbg : b ≠ gb := by
   rintro rfl
   rcases hk with hk | hk
   ·exact b2 hk.symm
   ·omega
  exact ⟨hbg, (hWk b hbg).trans ((hg.block b (by omega) fun e => b2 e.symm).trans (hb.block b b1))⟩
 have hZ : ∀ b, b ≠ B → (W.setCell ⟨B, m * 4 + 3, none⟩ (.slice (some ⟨gb, 0, none⟩) (f.ds.length + 1) cap')).heap[b]? = W.heap[b]? := fun b hb' => Below.heap_setCell _ _ _ b hb'
 have hZs : (W.setCell ⟨B, m * 4 + 3, none⟩ (.slice (some ⟨gb, 0, none⟩) (f.ds.length + 1) cap')).heap.size = W.heap.size := by simp [World.setCell]
 have hall : ∀ b, b < w.heap.size → b ≠ B → q.d.ownBlock ≠ some b → (W.setCell ⟨B, m * 4 + 3, none⟩ (.slice (some ⟨gb, 0, none⟩) (f.ds.length + 1) cap')).heap[b]? = w.heap[b]? := fun b b1 b2 b3 => (hZ b b2).trans (h2k b b1 b3).2
 have hBd : q.d.ownBlock ≠ some B := fun e => (h74 B e).2 rfl
 have hkeep : ∀ b, SF B lo w.heap.size q b → SF B lo (W.setCell ⟨B, m * 4 + 3, none⟩ (.slice (some ⟨gb, 0, none⟩) (f.ds.length + 1) cap')).heap.size ⟨q.a, q.b, q.c, .slice (some ⟨gb, 0, none⟩) (f.ds.length + 1) cap'⟩ b ∧ (W.setCell ⟨B, m * 4 + 3, none⟩ (.slice (some ⟨gb, 0, none⟩) (f.ds.length + 1) cap')).heap[b]? = w.heap[b]? := by
  intro b hx
  obtain ⟨a1, a2, a3, a4, a5⟩ := hx
  refine ⟨⟨a1, by omega, a3, a4, fun e => ?_⟩, hall b a2 a3 a5⟩
  have e : gb = b := by injection e
  exact (h2k b a2 a5).1 e.symm
 refine ⟨⟨h1, h2, h3, by omega⟩, ?_, set_top (owns_keep h6 fun b hb' => ?_) h3 rfl, ⟨h70, owns_keep h71 fun b hb' => ?_, ⟨ps ++ [e], ?_, ?_, fun j hj gj => ?_⟩, fun b hb' => ?_, fun b hb' => ?_⟩, h8.keep (Nat.le_refl _) fun b a1 a2 a3 => ⟨hall b (by omega) a3 fun e => by have := hd b e; omega, a3⟩⟩
 ·exact (hall g hlt.1 (fun e => hne e.symm) fun e => by have := hd g e; omega).trans h5
 ·injection hb' with hb'; subst hb'; exact (h2k B hlt.2.1 hBd).2
 ·exact hall b (h71.lt b hb').2 (h73 b hb').2 (owns_apart h71 hko.1 (by decide) hb')
 ·rw [show (f.add d).ds.length = f.ds.length + 1 by show (f.ds ++ [d]).length = _; simp]
  exact owns_keep hWo fun b hb' => hZ b (by
   have e9 : gb = b := by injection hb'
   omega)
 ·show (ps ++ [e]).length = (f.ds ++ [d]).length
  rw [List.length_append, List.length_append, hko.2.1]; rfl
 ·have hl2 := hko.2.1
  have gj2 : j < (f.ds ++ [d]).length := gj
  show NdC _ _ ((f.ds ++ [d])[j]'gj2) _ _ _ _
  by_cases hjl : j < ps.length
  ·rw [List.getElem_append_left hjl, List.getElem_append_left (by omega)]
   exact NdC.keep hkeep _ (hko.2.2 j hjl (by omega))
  ·rw [List.getElem_append_right (by omega), List.getElem_append_right (by omega)]
   have e1 : j - ps.length = 0 := by simp at hj; omega
   have e2 : j - f.ds.length = 0 := by omega
   simp only [e1, e2, List.getElem_cons_zero]
   exact NdC.keep hkeep _ he
 ·have := h73 b hb'
  exact ⟨by omega, this.2⟩
 ·have e : gb = b := by injection hb'
  subst e
  exact ⟨by omega, hgB⟩
theorem FrM.nd {B lo hi : Nat} {w : World} {q : Q4} {f : Fr} (h : FrM B w lo hi q f) : NdC (fun b => lo ≤ b ∧ b < hi ∧ b ≠ B) w f.nd q.a q.b q.c q.d := by
 obtain ⟨⟨h1, h2⟩, h3, ⟨ps, h4⟩, h5, h6⟩ := h
 show NdC _ w (.mk f.k [] f.ks f.ds) _ _ _ _
 rw [NdC]
 refine ⟨h1, h2, rdS_of_owns h3 _ fun b hb => ⟨(h3.lt b hb).1, (h5 b hb).1, (h5 b hb).2⟩, ?_⟩
 exact h4.kdS (fun b hb => ⟨hb.1, hb.2.1, hb.2.2.1⟩) fun b hb => ⟨(h4.1.lt b hb).1, (h6 b hb).1, (h6 b hb).2⟩
theorem pop_row {w : World} {base : Nat} {e : TypeId} {size g cap n : Nat} {xs last : List Value} (hx : xs.length = n * size) (h : w.ownsRow base e size (.slice (some ⟨g, 0, none⟩) (n + 1) cap) (n + 1) (xs ++ last)) :
  w.ownsRow base e size (.slice (some ⟨g, 0, none⟩) n cap) n xs := by
 rcases h.2 with ⟨h0, _⟩ | ⟨g', cap', cur, hv, hg, hh, hn, hcap, hsz, htake⟩
 ·cases h0
 ·injection hv with e1 _ e2
  injection e1 with e1
  injection e1 with e1 _ _
  subst e1; subst e2
  refine ⟨hx, .inr ⟨g, cap, cur, rfl, hg, hh, by omega, hcap, hsz, ?_⟩⟩
  have h3 : (cur.toList.take ((n + 1) * size)).take (n * size) = (xs ++ last).take (n * size) := by rw [htake]
  rw [List.take_take, Nat.min_eq_left (Nat.mul_le_mul_right _ (by omega)), ← hx, List.take_left] at h3
  rw [← hx]
  exact h3
theorem RS.pop {q' : Q4} {f' : Fr} (h : RS b0 g B m n cap w r lo q (q' :: qs) f (f' :: S)) : ∃ m' lo', m' + 1 = m ∧
  RS b0 g B m' m cap (w.setCell ⟨g, 1, none⟩ (.slice (some ⟨B, 0, none⟩) m cap)) r lo' q' qs f' S ∧ NdC (SF B lo' w.heap.size q') (w.setCell ⟨g, 1, none⟩ (.slice (some ⟨B, 0, none⟩) m cap)) f.nd q.a q.b q.c q.d := by
 have hlt := h.lt
 have hne := h.apart
 obtain ⟨⟨h1, h2, h3, h4⟩, h5, h6, h7, lo', h81, h82, h83⟩ := h
 have hbase := h83.base
 have hZ : ∀ b, b ≠ g → (w.setCell ⟨g, 1, none⟩ (.slice (some ⟨B, 0, none⟩) m cap)).heap[b]? = w.heap[b]? := fun b hb' => Below.heap_setCell _ _ _ b hb'
 have hZs : (w.setCell ⟨g, 1, none⟩ (.slice (some ⟨B, 0, none⟩) m cap)).heap.size = w.heap.size := by simp [World.setCell]
 rw [List.length_cons] at h3
 subst h3
 subst h2
 refine ⟨qs.length, lo', rfl, ⟨⟨h1, rfl, rfl, by omega⟩, Lib.heap_setCell_same (i := 1) h5 _, owns_keep (n := qs.length + 1) ?_ fun b hb' => hZ b ?_, ?_, h83.keep (Nat.le_refl _) fun b a1 _ a3 => ⟨hZ b (by omega), a3⟩⟩, ?_⟩
 ·rw [flat_top] at h6
  exact pop_row (by rw [flat4_len, List.length_reverse, List.length_cons]) h6
 ·have e9 : B = b := by injection hb'
  omega
 ·rw [hZs]
  exact h82.keep (by omega) fun b a1 _ a3 => ⟨hZ b (by omega), a3⟩
 ·refine NdC.keep (fun b hb => ?_) _ h7.nd
  have hb1 : lo ≤ b := hb.1
  refine ⟨⟨by omega, hb.2.1, hb.2.2, fun e => ?_, fun e => ?_⟩, hZ b (by omega)⟩
  ·have := (h82.2.2.2.1 b e).1; omega
  ·have := (h82.2.2.2.2 b e).1; omega
end
end
end Go.Proofs.YtmdgpejedbkkdaaGreatDoor
