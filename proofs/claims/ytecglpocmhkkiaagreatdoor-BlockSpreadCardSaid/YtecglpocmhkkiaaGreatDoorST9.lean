/- QuoOwn, RefNod1, RefNod2, RefFlo1, RefNod3, NodMeas -/
import Derived.Below
import Derived.ChangeAlike
import Derived.Deep.LoopGhost
import Derived.Deep.RegionLaw
import Derived.IntWalk
import Derived.Laws.AppendOwnNone
import Derived.Laws.BytesArg
import Derived.Lib.OwnBridge
import Derived.Maps.AppendAt
import Derived.OwnWalk
import Derived.ProofKit
import Derived.RegionTactic
import Derived.Sort.OwnSorted
import Derived.StillTailTactics
import Derived.Test.YtecglpocmhkkiaaGreatDoorST4
import Derived.Test.YtecglpocmhkkiaaGreatDoorST5
import Derived.Test.YtecglpocmhkkiaaGreatDoorST7
import Derived.Test.YtecglpocmhkkiaaGreatDoorST8
import Derived.WalkKit
import Derived.WalkSpells
set_option linter.unusedVariables false
set_option linter.unusedSimpArgs false
set_option maxRecDepth 100000
set_option maxHeartbeats 16000000
open Go.Lib (hid)
namespace Go.Proofs.YtecglpocmhkkiaaGreatDoor
section
open Go.RowKit Go.Sort
open Q6
def encB (c : UInt8) : Value := .int .u8 (c.toNat : Int)
theorem infoB0 : (Tryz.prog.info? 5).map (fun i => (i.zero, i.size, i.bytes)) = some (some (.int .u8 0), 1, 1) := by kernel_rfl
theorem infoB : ∃ i, Tryz.prog.info? 5 = some i ∧ i.zero = some (.int .u8 0) ∧ i.size = 1 ∧ i.bytes = 1 := by
 have h := infoB0
 cases hi : Tryz.prog.info? 5 with
 | none => rw [hi] at h; cases h
 | some i =>
  rw [hi] at h
  simp only [Option.map_some, Option.some.injEq, Prod.mk.injEq] at h
  exact ⟨i, rfl, h.1, h.2.1, h.2.2⟩
theorem nums_of (l : List UInt8) : strOfNums (l.map fun c => (c.toNat : Int)) = ⟨l.toArray⟩ := by
 unfold strOfNums
 congr 2
 rw [List.map_map]
 conv => rhs; rw [← List.map_id l]
 apply List.map_congr_left
 intro c _
 simp
theorem conv_read {w' : World} {b len cap : Nat} {l : List UInt8} (hcell : ∀ i (hi : i < l.length), w'.cell? ⟨b, i, none⟩ = some (encB l[i])) (hlen : l.length = len) :
  (convert 58 9 (.slice (some ⟨b, 0, none⟩) len cap)).run Tryz.prog w' = .ok (.string ⟨l.toArray⟩) w' := by
 have h := run_convert_bytes_arg (P := Tryz.prog) w' 58 5 Tryz.underlying58 Tryz.underlying5 b 0 len cap (l.map fun c => (c.toNat : Int)) (by simpa using hlen) (fun i hi => by
  rw [Nat.zero_add, hcell i (by omega)]
  simp [List.getD, List.getElem?_eq_getElem (show i < l.length by omega), encB]) 9 Tryz.underlying9
 subst hlen
 rw [h, nums_of]
theorem own_conv {wr : World} {base n : Nat} {v : Value} {l : List UInt8} (h : wr.ownsRow base 5 1 v n (l.map encB)) (hv : v ≠ .slice none 0 0) :
  ∃ g cap, v = .slice (some ⟨g, 0, none⟩) n cap ∧ (convert 58 9 (.slice (some ⟨g, 0, none⟩) n cap)).run Tryz.prog wr = .ok (.string ⟨l.toArray⟩) wr := by
 obtain ⟨g, cap, rfl, _, hg, h1, h2, hl, hH⟩ := Lib.holds_of_ownsRow h hv
 refine ⟨g, cap, rfl, conv_read (fun i hi => ?_) hl⟩
 have := (hH i (by simpa using hi)).1
 rw [getElem!_pos l.toArray i (by simpa using hi), Nat.zero_add] at this
 simpa using this
theorem conv_nil (w : World) : (convert 58 9 (.slice none 0 0)).run Tryz.prog w = .ok (.string ⟨#[]⟩) w :=
 run_convert_bytes_nil (P := Tryz.prog) w 58 5 Tryz.underlying58 Tryz.underlying5 0 0 9 Tryz.underlying9
theorem own_none {wr : World} {base n : Nat} {l : List UInt8} (h : wr.ownsRow base 5 1 (.slice none 0 0) n (l.map encB)) : n = 0 ∧ l = [] := by
 rcases h.2 with ⟨_, h0⟩ | ⟨g, cap, cur, h0, _⟩
 ·refine ⟨h0, ?_⟩
  have hl : (l.map encB).length = n * 1 := h.1
  rw [List.length_map] at hl
  exact List.length_eq_zero_iff.1 (by omega)
 ·cases h0
theorem own_cases {wr : World} {base n : Nat} {v : Value} {l : List UInt8} (h : wr.ownsRow base 5 1 v n (l.map encB)) :
  (v = .slice none 0 0 ∧ l = []) ∨ ∃ g cap, v = .slice (some ⟨g, 0, none⟩) n cap ∧ (convert 58 9 (.slice (some ⟨g, 0, none⟩) n cap)).run Tryz.prog wr = .ok (.string ⟨l.toArray⟩) wr := by
 by_cases hv : v = .slice none 0 0
 ·subst hv; exact .inl ⟨rfl, (own_none h).2⟩
 ·exact .inr (own_conv h hv)
theorem row_new (w : World) (o : Obj) : (w.alloc o).heap[w.heap.size]? = some o := by
 show (w.heap.push o)[w.heap.size]? = some o
 simp
theorem cells_new (w : World) (c : Array Value) (t : TypeId) : ∀ j u, c.toList[j]? = some u → (w.alloc (.cells c t)).cell? ((⟨w.heap.size, 0, none⟩ : Addr).add j) = some u := by
 intro j u h
 have hadd : (⟨w.heap.size, 0, none⟩ : Addr).add j = ⟨w.heap.size, j, none⟩ := by unfold Addr.add; split <;> simp_all
 rw [hadd, cell_of_row _ _ j c t (0, 0) (row_new w _)]
 simpa using h
theorem one_one (a : Int) : ∀ u ∈ [Value.int .u8 a], u.oneCell' = true := by
 intro u hu
 simp at hu
 subst hu; rfl
theorem owns_drewN {w : World} {base n size : Nat} {e : TypeId} {v : Value} {xs : List Value} (h : w.ownsRow base e size v n xs) (q : Nat) : (w.drewN q).ownsRow base e size v n xs := h
theorem owns_nil (w : World) (base : Nat) (e : TypeId) : w.ownsRow base e 1 (.slice none 0 0) 0 [] := ⟨rfl, .inl ⟨rfl, rfl⟩⟩
theorem belowD (w : World) (q : Nat) : Below w.heap.size w (w.drewN q) := ⟨rfl, rfl, rfl, Nat.le_refl _, fun _ _ => rfl⟩
theorem Below.dr {w w2 : World} {b : Nat} (h : Below b w w2) (hb : b ≤ w2.heap.size) (n : Nat) : Below b w (w2.drewN n) := h.trans ((belowD w2 n).mono hb)
theorem ret_sii {a b : ByteArray} {m n e f : Int} (h : a = b) (g : m = n) (k : e = f) : Ending.returned (.tuple #[.string a, .int .i64 m, .int .i64 e]) = .returned (.tuple #[.string b, .int .i64 n, .int .i64 f]) := by rw [h, g, k]
theorem bytes_ext {a b : ByteArray} (h : a.data.toList = b.data.toList) : a = b := by
 cases a; cases b; simp at h; simp [h]
theorem data_app (a b : ByteArray) : (a ++ b).data.toList = a.data.toList ++ b.data.toList := by
 rw [ByteArray.data_append]; simp
theorem map_snoc (l : List UInt8) (c : UInt8) : (l ++ [c]).map encB = l.map encB ++ [.int .u8 (c.toNat : Int)] := by simp [encB]
end
section
open Go.RowKit Go.Sort
open Nw N8
def Row4 (w : World) (g : Nat) (t : TypeId) (a b c d : Value) : Prop := w.heap[g]? = some (.cells #[a, b, c, d] t (0, 0))
section
variable {w w' : World} {g B : Nat} {t : TypeId} {a b c d : Value}
theorem Row4.make (w : World) (t : TypeId) (a b c d : Value) : Row4 (w.alloc (.cells #[a, b, c, d] t)) w.heap.size t a b c d := by
 show (w.heap.push _)[w.heap.size]? = _
 simp
theorem Row4.below (h : Row4 w g t a b c d) (hb : Below B w w') (hg : g < B) : Row4 w' g t a b c d := (hb.block g hg).trans h
theorem Row4.lt (h : Row4 w g t a b c d) : g < w.heap.size := by
 rcases Nat.lt_or_ge g w.heap.size with hl | hl
 ·exact hl
 ·unfold Row4 at h; rw [Array.getElem?_eq_none hl] at h; cases h
theorem Row4.alloc (h : Row4 w g t a b c d) (o : Obj) : Row4 (w.alloc o) g t a b c d := (Below.heap_alloc w o g h.lt).trans h
theorem Row4.cells (h : Row4 w g t a b c d) : w.cell? ⟨g, 0, none⟩ = some a ∧ w.cell? ⟨g, 1, none⟩ = some b ∧ w.cell? ⟨g, 2, none⟩ = some c ∧ w.cell? ⟨g, 3, none⟩ = some d :=
 ⟨cell_of_row w g 0 _ t (0, 0) h, cell_of_row w g 1 _ t (0, 0) h, cell_of_row w g 2 _ t (0, 0) h, cell_of_row w g 3 _ t (0, 0) h⟩
theorem Row4.frozen (h : Row4 w g t a b c d) : w.frozen? ⟨g, 0, none⟩ = false ∧ w.frozen? ⟨g, 1, none⟩ = false ∧ w.frozen? ⟨g, 2, none⟩ = false ∧ w.frozen? ⟨g, 3, none⟩ = false := by
 unfold Row4 at h
 simp [World.frozen?, h]
end
theorem belowNext {w w1 w2 : World} (h : Below w.heap.size w w1) (g : Below w1.heap.size w1 w2) : Below w.heap.size w w2 := h.trans (g.mono h.size)
theorem NdW.kid {w : World} {k : Int} {t : L8} {ks : List L8} {ds : List Nd} {c0 c1 c2 : Value} {A : Option Addr} {n cap : Nat} (h : NdW w (.mk k t ks ds) c0 c1 c2 (.slice A n cap)) (j : Nat) (hj : j < ds.length) :
  ∃ (b o : Nat) (e0 e1 e2 e3 : Value), A = some ⟨b, o, none⟩ ∧ b < w.heap.size ∧ w.cell? ⟨b, o + j * 4, none⟩ = some e0 ∧ w.cell? ⟨b, o + j * 4 + 1, none⟩ = some e1 ∧
    w.cell? ⟨b, o + j * 4 + 2, none⟩ = some e2 ∧ w.cell? ⟨b, o + j * 4 + 3, none⟩ = some e3 ∧ NdW w (ds[j]'hj) e0 e1 e2 e3 := by
 obtain ⟨_, _, _, A', cap', hA', _, _, _, hkid⟩ := h.parts
 have hAe : A = A' := by injection hA'
 subst hAe
 exact hkid j hj
def Boxed (w0 w : World) (d : Nd) (c0 c1 c2 c3 : Value) : Prop := Below w0.heap.size w0 w ∧ Row4 w w0.heap.size 26 c0 c1 c2 c3 ∧ NdW w d c0 c1 c2 c3
theorem Boxed.make {w : World} {d : Nd} {c0 c1 c2 c3 : Value} (h : NdW w d c0 c1 c2 c3) : Boxed w (w.alloc (.cells #[c0, c1, c2, c3] 26)) d c0 c1 c2 c3 :=
 ⟨(Below.refl _ _).alloc (Nat.le_refl _) _, Row4.make w _ _ _ _ _, h.below ((Below.refl _ _).alloc (Nat.le_refl _) _)⟩
theorem Boxed.go {w0 w w' : World} {d : Nd} {c0 c1 c2 c3 : Value} (h : Boxed w0 w d c0 c1 c2 c3) (hb : Below w.heap.size w w') : Boxed w0 w' d c0 c1 c2 c3 :=
 ⟨belowNext h.1 hb, h.2.1.below hb h.2.1.lt, h.2.2.below hb⟩
end
section
open Go.RowKit Go.Sort
open Nw N8
theorem rd_slice {w : World} {v : Value} {l : List L8} (h : Rd w v l) : ∃ (a : Option Addr) (cap : Nat), v = .slice a l.length cap ∧ l.length ≤ cap ∧ cap ≤ maxLen := by
 obtain ⟨a, cap, hv, h1, h2, _⟩ := h
 exact ⟨a, cap, hv, h1, h2⟩
theorem Boxed.keys {w0 w : World} {k : Int} {t : L8} {ks : List L8} {ds : List Nd} {c0 c1 c2 c3 : Value} (h : Boxed w0 w (.mk k t ks ds) c0 c1 c2 c3) : Rd w c2 ks := h.2.2.parts.2.2.1
end
section
open Go.RowKit Go.Sort
open Nw N8 Q6 F9
theorem ret_s9 {a b : ByteArray} (h : a.data.toList = b.data.toList) : Ending.returned (.string a) = .returned (.string b) := by
 have : a = b := by rw [← ba_of a, ← ba_of b, h]
 rw [this]
theorem ret_i {a b : Int} (h : a = b) : Ending.returned (.int .i64 a) = .returned (.int .i64 b) := by rw [h]
end
section
open Go.RowKit Go.Sort
open Nw N8
theorem region_tail {P : Program} {id : Nat} {Q : Exit → Act → World → Prop} {a : Act} {w : World} {l : List Oper} (n : Nat) (hm : P.follows .mixedOrders = true) (hB : Region.lexTailB .any l.toArray n = true)
  (h : ∀ w9 : World, w9 = w.drew → wpStill P l.toArray w9 (fun a' => wpList P l.toArray Q (l.drop n) a' w9) (l.take n) a) : (Code.region id l.toArray true).wp P Q a w :=
 wp_region_still_tail n hm hB (h w.drew rfl)
def Boxed2 (w0 w : World) (d e : Nd) (c0 c1 c2 c3 u0 u1 u2 u3 : Value) : Prop :=
 Below w0.heap.size w0 w ∧ Row4 w w0.heap.size 26 c0 c1 c2 c3 ∧ Row4 w (w0.heap.size + 1) 26 u0 u1 u2 u3 ∧ NdW w d c0 c1 c2 c3 ∧ NdW w e u0 u1 u2 u3
theorem Boxed2.make {w : World} {d e : Nd} {c0 c1 c2 c3 u0 u1 u2 u3 : Value} (h : NdW w d c0 c1 c2 c3) (g : NdW w e u0 u1 u2 u3) :
  Boxed2 w ((w.alloc (.cells #[c0, c1, c2, c3] 26)).alloc (.cells #[u0, u1, u2, u3] 26)) d e c0 c1 c2 c3 u0 u1 u2 u3 := by
 have hb1 : Below w.heap.size w (w.alloc (.cells #[c0, c1, c2, c3] 26)) := (Below.refl _ _).alloc (Nat.le_refl _) _
 have hb : Below w.heap.size w ((w.alloc (.cells #[c0, c1, c2, c3] 26)).alloc (.cells #[u0, u1, u2, u3] 26)) := hb1.alloc hb1.size _
 refine ⟨hb, (Row4.make w _ _ _ _ _).alloc _, ?_, h.below hb, g.below hb⟩
 have := Row4.make (w.alloc (.cells #[c0, c1, c2, c3] 26)) 26 u0 u1 u2 u3
 rw [show (w.alloc (.cells #[c0, c1, c2, c3] 26)).heap.size = w.heap.size + 1 by simp] at this
 exact this
theorem Boxed2.go {w0 w w' : World} {d e : Nd} {c0 c1 c2 c3 u0 u1 u2 u3 : Value} (h : Boxed2 w0 w d e c0 c1 c2 c3 u0 u1 u2 u3) (hb : Below w.heap.size w w') : Boxed2 w0 w' d e c0 c1 c2 c3 u0 u1 u2 u3 :=
 ⟨belowNext h.1 hb, h.2.1.below hb h.2.1.lt, h.2.2.1.below hb h.2.2.1.lt, h.2.2.2.1.below hb, h.2.2.2.2.below hb⟩
theorem below_drew (w : World) : Below w.heap.size w w.drew := ⟨rfl, rfl, rfl, Nat.le_refl _, fun _ _ => rfl⟩
theorem sameL_ne {ds es : List Nd} (h : ds.length ≠ es.length) : sameL ds es = false := Bool.eq_false_iff.2 fun e => h (sameL_len e)
theorem sameL_no : ∀ {ds es : List Nd} {j : Nat} (h : j < ds.length) (g : j < es.length), sameT (ds[j]'h) (es[j]'g) = false → sameL ds es = false
 | d :: ds, e :: es, 0, _, _, hs => by
  have hs' : sameT d e = false := hs
  rw [sameL, hs']; rfl
 | d :: ds, e :: es, j + 1, h, g, hs => by
  have hs' : sameT (ds[j]'(Nat.lt_of_succ_lt_succ h)) (es[j]'(Nat.lt_of_succ_lt_succ g)) = false := hs
  rw [sameL, sameL_no _ _ hs', Bool.and_false]
theorem sameL_all : ∀ {ds es : List Nd}, ds.length = es.length → (∀ (j : Nat) (h : j < ds.length) (g : j < es.length), sameT (ds[j]'h) (es[j]'g) = true) → sameL ds es = true
 | [], [], _, _ => rfl
 | d :: ds, e :: es, hl, h => by
  have h0 : sameT d e = true := h 0 (Nat.succ_pos _) (Nat.succ_pos _)
  rw [sameL, h0, sameL_all (Nat.succ.inj hl) fun j hj gj => h (j + 1) (Nat.succ_lt_succ hj) (Nat.succ_lt_succ gj)]; rfl
 | [], _ :: _, hl, _ => by cases hl
 | _ :: _, [], hl, _ => by cases hl
theorem RSame_q (v u : Value) (l m : List L8) (w : World) (h : Rd w v l) (k : Rd w u m) (b : Bool) (hb : decide (l = m) = b) :
  Calls Tryz.prog 22 #[v, u] w fun e w' => e = .returned (.bool b) ∧ Below w.heap.size w w' := by
 subst hb; exact RSame_any v u l m w h k
theorem toList_beq {x y : L8} (h : x ≠ y) : ((ba x).toList == (ba y).toList) = false := by rw [ba_list, ba_list]; exact beq_eq_false_iff_ne.2 h
theorem toList_bne {x y : L8} (h : x ≠ y) : ((ba x).toList != (ba y).toList) = true := by rw [ba_list, ba_list]; exact bne_iff_ne.2 h
theorem RSameT_any (N : Nat) : ∀ (d e : Nd), cntT d ≤ N → ∀ (r : Bool), sameT d e = r → ∀ (c0 c1 c2 c3 u0 u1 u2 u3 : Value) (w : World), NdW w d c0 c1 c2 c3 → NdW w e u0 u1 u2 u3 →
  Calls Tryz.prog 9 #[.agg #[c0, c1, c2, c3], .agg #[u0, u1, u2, u3]] w fun x w' => x = .returned (.bool r) ∧ Below w.heap.size w w' := by
 induction N with
 | zero => intro d _ h; have := cntT_pos d; omega
 | succ N ih =>
  intro d e hN r hr c0 c1 c2 c3 u0 u1 u2 u3 w hd he
  cases d with
  | mk k t ks ds =>
   cases e with
   | mk k' t' ks' es =>
    have HB0 := hid (Boxed2.make hd he)
    obtain ⟨rfl, rfl, hks, A, cap, rfl, hcap, hm, _, _⟩ := hd.parts
    obtain ⟨rfl, rfl, hks', A', cap', rfl, hcap', hm', _, _⟩ := he.parts
    have HIH := hid ih
    have hcN : cntL ds ≤ N := by rw [cntT] at hN; omega
    have HCN := hid hcN
    rw [sameT] at hr
    have HR0 := hid hr
    obtain ⟨n, hn⟩ : ∃ n, ds.length = n := ⟨_, rfl⟩
    have HN := hid hn
    obtain ⟨n', hn'⟩ : ∃ n', es.length = n' := ⟨_, rfl⟩
    have HN' := hid hn'
    rw [hn] at HB0 hcap ⊢
    rw [hn'] at HB0 hcap' ⊢
    unfold maxLen at hm hm'
    have hn63 : n ≤ 9223372036854775807 := by omega
    have hn63' : n' ≤ 9223372036854775807 := by omega
    clear ih hd he hn hn' hcN hN hr hks hks'
    by_cases hk : k = k'
    ·subst hk
     have p1 : (k != k) = false := by simp
     by_cases ht : t = t'
     ·subst ht
      obtain ⟨T, hT⟩ : ∃ T, ba t = T := ⟨_, rfl⟩
      rw [hT] at HB0 ⊢
      have p2 : (T.toList != T.toList) = false := by simp
      by_cases hkk : ks = ks'
      ·subst hkk
       have HKS := hid (fun W hW hW' => RSame_q c2 u2 ks ks W hW hW' true (decide_eq_true rfl))
       by_cases hnn : n = n'
       ·subst hnn
        clear hT
        go_enter Tryz.func9, Tryz.ntmps9
        obtain ⟨x0, x1, x2, x3⟩ := HB0.out.2.1.cells
        obtain ⟨y0, y1, y2, y3⟩ := HB0.out.2.2.1.cells
        go_wp2_with fail
        refine (HKS.out _ HB0.out.2.2.2.1.parts.2.2.1 HB0.out.2.2.2.2.parts.2.2.1).mono ?_
        rintro x w1 ⟨rfl, hb1⟩
        have HB1 := hid (HB0.out.go hb1)
        clear hb1 x0 x1 x2 x3 y0 y1 y2 y3
        obtain ⟨x0, x1, x2, x3⟩ := HB1.out.2.1.cells
        obtain ⟨y0, y1, y2, y3⟩ := HB1.out.2.2.1.cells
        go_wp2
        clear x0 x1 x2 x3 y0 y1 y2 y3
        go_loopw [5] (fun si wr => ∃ j : Nat, j ≤ n ∧ si = .int .i64 (j : Int) ∧ Hid (Boxed2 w wr (.mk k t ks ds) (.mk k t ks es) (.int .i64 k) (.string T) c2 (.slice A n cap) (.int .i64 k) (.string T) u2 (.slice A' n cap')) ∧ Hid (∀ (l : Nat) (h : l < ds.length) (g : l < es.length), l < j → sameT (ds[l]'h) (es[l]'g) = true)) (fun si _ => n - (intOf si).toNat)
        case atStart => exact ⟨0, Nat.zero_le _, rfl, HB1, hid fun i _ _ h => absurd h (Nat.not_lt_zero _)⟩
        case round =>
         clear HB0 HB1
         obtain ⟨j, hj, rfl, HB, HK⟩ := hrel
         by_cases hlt : j < n
         ·have hjl : j < ds.length := by rw [HN.out]; exact hlt
          have hjl' : j < es.length := by rw [HN'.out]; exact hlt
          have hjz : (j : Int) < (n : Int) := by omega
          have hck : cntT (ds[j]'hjl) ≤ cntL ds := cntL_mem (List.getElem_mem hjl)
          have hcall := HIH.out (ds[j]'hjl) (es[j]'hjl') (by have := HCN.out; omega)
          obtain ⟨z0, z1, z2, z3⟩ := HB.out.2.1.cells
          go_wp2
          refine region_tail 10 (by kernel_rfl) (by kernel_rfl) ?_
          intro w9 hw9
          simp only [List.take_succ_cons, List.take_zero, List.drop_succ_cons, List.drop_zero]
          have HB9 := hid (HB.out.go (w' := w9) (by rw [hw9]; exact below_drew _))
          clear hw9 z0 z1 z2 z3
          obtain ⟨x0, x1, x2, x3⟩ := HB9.out.2.1.cells
          obtain ⟨y0, y1, y2, y3⟩ := HB9.out.2.2.1.cells
          obtain ⟨b, o, e0, e1, e2, e3, rfl, hb, v0, v1, v2, v3, hnd⟩ := HB9.out.2.2.2.1.kid j hjl
          obtain ⟨b', o', f0, f1, f2, f3, rfl, hb', q0, q1, q2, q3, hnd'⟩ := HB9.out.2.2.2.2.kid j hjl'
          rcases Bool.eq_false_or_eq_true (sameT (ds[j]'hjl) (es[j]'hjl')) with hs | hs
          ·have HR := hid (hcall true hs e0 e1 e2 e3 f0 f1 f2 f3 w9 hnd hnd')
           have HSS := hid hs
           clear hnd hnd' hck hcall hs
           repeat still_step
           refine wpStill_nil ?_
           go_wp2_with (go_at_call 9; refine HR.out.mono ?_; rintro x w2 ⟨rfl, hb2⟩)
           have HB2 := hid (HB9.out.go hb2)
           clear hb2
           go_roundw
           case measure => simp [intOf]; omega
           case rel =>
            refine ⟨j + 1, by omega, by go_num, HB2, hid fun l hl gl hli => ?_⟩
            rcases Nat.lt_succ_iff_lt_or_eq.1 hli with h | rfl
            ·exact HK.out l hl gl h
            ·exact HSS.out
          ·have HR := hid (hcall false hs e0 e1 e2 e3 f0 f1 f2 f3 w9 hnd hnd')
           have HE : Hid (r = false) := hid (by rw [← HR0.out, sameL_no hjl hjl' hs, Bool.and_false])
           clear hnd hnd' hck hcall hs
           repeat still_step
           refine wpStill_nil ?_
           go_wp2_with (go_at_call 9; refine HR.out.mono ?_; rintro x w2 ⟨rfl, hb2⟩)
           go_ret
           exact ⟨ret_b HE.out.symm, (HB9.out.go hb2).1⟩
         ·obtain rfl : j = n := by omega
          have HE : Hid (r = true) := hid (by rw [← HR0.out, sameL_all (HN.out.trans HN'.out.symm) fun l hl gl => HK.out l hl gl (by rw [← HN.out]; exact hl)]; simp)
          obtain ⟨x0, x1, x2, x3⟩ := HB.out.2.1.cells
          go_wp2
          go_ret
          exact ⟨ret_b HE.out.symm, HB.out.1⟩
       ·have HE : Hid (r = false) := hid (by rw [← HR0.out, sameL_ne (by rw [HN.out, HN'.out]; exact hnn), Bool.and_false])
        have p4 : ((n : Int) != (n' : Int)) = true := bne_iff_ne.2 (by omega)
        clear hT
        go_enter Tryz.func9, Tryz.ntmps9
        go_wp2_with fail
        refine (HKS.out _ HB0.out.2.2.2.1.parts.2.2.1 HB0.out.2.2.2.2.parts.2.2.1).mono ?_
        rintro x w1 ⟨rfl, hb1⟩
        have HB1 := hid (HB0.out.go hb1)
        clear hb1
        obtain ⟨x0, x1, x2, x3⟩ := HB1.out.2.1.cells
        obtain ⟨y0, y1, y2, y3⟩ := HB1.out.2.2.1.cells
        go_wp2
        go_ret
        exact ⟨ret_b HE.out.symm, HB1.out.1⟩
      ·have HKS := hid (fun W hW hW' => RSame_q c2 u2 ks ks' W hW hW' false (decide_eq_false hkk))
       have HE : Hid (r = false) := hid (by rw [← HR0.out, decide_eq_false hkk, Bool.and_false, Bool.false_and])
       clear hT hkk
       go_enter Tryz.func9, Tryz.ntmps9
       go_wp2_with fail
       refine (HKS.out _ HB0.out.2.2.2.1.parts.2.2.1 HB0.out.2.2.2.2.parts.2.2.1).mono ?_
       rintro x w1 ⟨rfl, hb1⟩
       have HB1 := hid (HB0.out.go hb1)
       clear hb1
       go_wp2
       go_ret
       exact ⟨ret_b HE.out.symm, HB1.out.1⟩
     ·have HE : Hid (r = false) := hid (by rw [← HR0.out, decide_eq_false ht, Bool.and_false, Bool.false_and, Bool.false_and])
      obtain ⟨T, hT⟩ : ∃ T, ba t = T := ⟨_, rfl⟩
      obtain ⟨T', hT'⟩ : ∃ T', ba t' = T' := ⟨_, rfl⟩
      have p2 : (T.toList != T'.toList) = true := by rw [← hT, ← hT']; exact toList_bne ht
      have p3 : (T.toList == T'.toList) = false := by rw [← hT, ← hT']; exact toList_beq ht
      have p1 : (k != k) = false := by simp
      rw [hT, hT'] at HB0 ⊢
      clear hT hT' ht
      go_enter Tryz.func9, Tryz.ntmps9
      go_wp2
      go_ret
      exact ⟨ret_b HE.out.symm, HB0.out.1⟩
    ·have HE : Hid (r = false) := hid (by rw [← HR0.out, decide_eq_false hk, Bool.false_and, Bool.false_and, Bool.false_and])
     have p1 : (k != k') = true := bne_iff_ne.2 hk
     clear hk
     go_enter Tryz.func9, Tryz.ntmps9
     go_wp2
     go_ret
     exact ⟨ret_b HE.out.symm, HB0.out.1⟩
end
section
open Go.RowKit Go.Sort
open Nw N8
theorem ret_i2 {a b c d : Int} (h : a = b) (g : c = d) : Ending.returned (.tuple #[.int .i64 a, .int .i64 c]) = .returned (.tuple #[.int .i64 b, .int .i64 d]) := by rw [h, g]
theorem ndw_shape {w : World} {d : Nd} {c0 c1 c2 c3 : Value} (h : NdW w d c0 c1 c2 c3) :
  ∃ (k : Int) (s : ByteArray) (a : Option Addr) (n c : Nat) (A : Option Addr) (m q : Nat), c0 = .int .i64 k ∧ c1 = .string s ∧ c2 = .slice a n c ∧ c3 = .slice A m q := by
 cases d with
 | mk k t ks ds =>
  obtain ⟨h0, h1, ⟨a, c, h4, _⟩, A, cap, h3, _⟩ := h.parts
  exact ⟨k, _, a, _, c, A, _, cap, h0, h1, h4, h3⟩
theorem measure_any (N : Nat) : ∀ (d : Nd), cntT d ≤ N → ∀ (most : Int), (cntT d : Int) ≤ most → most ≤ 1000000 → ∀ (c0 c1 c2 c3 : Value) (w : World), NdW w d c0 c1 c2 c3 →
  Calls Tryz.prog 61 #[.agg #[c0, c1, c2, c3], .int .i64 most] w fun e w' => e = .returned (.tuple #[.int .i64 (cntT d : Int), .int .i64 (depT d : Int)]) ∧ Below w.heap.size w w' := by
 induction N with
 | zero => intro d h; have := cntT_pos d; omega
 | succ N ih =>
  intro d hN most hmost hbig c0 c1 c2 c3 w hd
  cases d with
  | mk k t ks ds =>
   have HB0 := hid (Boxed.make hd)
   obtain ⟨rfl, rfl, _, A, cap, rfl, hcap, hm, hnil, _⟩ := hd.parts
   have HIH := hid ih
   obtain ⟨n, hn⟩ : ∃ n, ds.length = n := ⟨_, rfl⟩
   have HN := hid hn
   rw [cntT] at hmost hN
   have hnl : n ≤ 1000000 := by have := cntL_len ds; omega
   have hcN : cntL ds ≤ N := by omega
   rw [cntT, depT]
   have HC := hid hmost
   have HBG := hid hbig
   have HCN := hid hcN
   have HDL : Hid (depL ds ≤ cntL ds) := hid (by
    have := depT_cnt _ (.mk k t ks ds) (Nat.le_refl _)
    rw [depT, cntT] at this; omega)
   obtain ⟨TOT, hT⟩ : ∃ TOT, cntL ds = TOT := ⟨_, rfl⟩
   obtain ⟨DOT, hD⟩ : ∃ DOT, depL ds = DOT := ⟨_, rfl⟩
   have HT := hid hT
   have HD := hid hD
   rw [hT, hD]
   rw [hn] at HB0 hcap ⊢
   clear ih hd hn hcN hT hD hN hnil
   rw [HT.out] at hmost
   obtain ⟨TT, hTT⟩ : ∃ TT, ba t = TT := ⟨_, rfl⟩
   rw [hTT] at HB0 ⊢
   clear hTT
   go_enter Tryz.func61, Tryz.ntmps61
   obtain ⟨x0, x1, x2, x3⟩ := HB0.out.2.1.cells
   go_wp2
   clear x0 x1 x2 x3
   go_loopw [4, 5, 7, 8, 9, 13] (fun sc sd s7 s8 s9 si wr => ∃ (j C D : Nat), j ≤ n ∧ C ≤ 1000000 ∧ (1 ≤ C ∧ D ≤ C) ∧ si = .int .i64 (j : Int) ∧ sc = .int .i64 (C : Int) ∧ sd = .int .i64 (D : Int) ∧ Hid (C = 1 + cntL (ds.take j)) ∧ Hid (D = 1 + depL (ds.take j)) ∧ Hid (Boxed w wr (.mk k t ks ds) (.int .i64 k) (.string TT) c2 (.slice A n cap))) (fun _ _ _ _ _ si _ => n - (intOf si).toNat)
   case atStart => exact ⟨0, 1, 1, Nat.zero_le _, by omega, ⟨by omega, by omega⟩, rfl, rfl, rfl, hid rfl, hid rfl, HB0⟩
   case round =>
    clear HB0
    obtain ⟨j, C, D, hj, hC, ⟨hC1, hD⟩, rfl, rfl, rfl, HCJ, HDJ, HB⟩ := hrel
    by_cases hlt : j < n
    ·have hjl : j < ds.length := by rw [HN.out]; exact hlt
     have hjz : (j : Int) < (n : Int) := by omega
     obtain ⟨b, o, e0, e1, e2, e3, rfl, hb, y0, y1, y2, y3, hnd⟩ := HB.out.2.2.kid j hjl
     obtain ⟨k', s', a', n', c', A', m', q', rfl, rfl, rfl, rfl⟩ := ndw_shape hnd
     have hcj := cntL_take_succ hjl
     have hdj := depL_take_succ hjl
     have hle := cntL_take_le ds (j + 1)
     have hpos := cntT_pos (ds[j]'hjl)
     have hdc := depT_cnt _ (ds[j]'hjl) (Nat.le_refl _)
     have hsum : C + cntT (ds[j]'hjl) = 1 + cntL (ds.take (j + 1)) := by rw [hcj, HCJ.out]; omega
     have hal : Below wr.heap.size wr (wr.alloc (.cells #[.int .i64 k', .string s', .slice a' n' c', .slice A' m' q'] 26)) := (Below.refl _ _).alloc (Nat.le_refl _) _
     have hsm : (C : Int) + (cntT (ds[j]'hjl) : Int) ≤ most := by have := HC.out; have := HT.out; omega
     have HR := hid (HIH.out (ds[j]'hjl) (by have := cntL_mem (List.getElem_mem hjl); have := HCN.out; omega) (most - (C : Int)) (by omega) (by omega) _ _ _ _ _ (hnd.below hal))
     have HS := hid hsum
     have HB1 := hid (HB.out.go hal)
     have HDS : Hid (max D (depT (ds[j]'hjl) + 1) = 1 + depL (ds.take (j + 1))) := hid (by rw [hdj, HDJ.out]; omega)
     obtain ⟨z, hz⟩ : ∃ z, cntT (ds[j]'hjl) = z := ⟨_, rfl⟩
     obtain ⟨y, hy⟩ : ∃ y, depT (ds[j]'hjl) = y := ⟨_, rfl⟩
     rw [hz, hy] at HR
     rw [hz] at hsm HS hpos hdc
     rw [hy] at hdc HDS
     clear hnd hcj hdj hle hsum hz hy hal
     have p1 : ((C : Int) == most) = false := by rw [beq_eq_false_iff_ne]; omega
     have p2 : IntKind.i64.wrap (most - (C : Int)) = most - (C : Int) := IntWalk.i64_in _ (by omega)
     have hCz : C + z ≤ 1000000 := by omega
     have hyb : y ≤ 1000000 := by omega
     obtain ⟨M, hM⟩ : ∃ M, most - (C : Int) = M := ⟨_, rfl⟩
     rw [hM] at HR p2
     go_wp2_with (go_at_call 61; refine HR.out.mono ?_; rintro e w2 ⟨rfl, hb2⟩)
     have HB2 := hid (HB1.out.go hb2)
     clear hb2
     exact ⟨⟨j + 1, C + z, max D (y + 1), by omega, hCz, ⟨by omega, by omega⟩, by go_num, by go_num, by go_num, HS, HDS, HB2⟩, by simp [intOf]; omega⟩
    ·obtain rfl : j = n := by omega
     have HE : Hid (C = 1 + TOT) := hid (by rw [HCJ.out, List.take_of_length_le (by rw [HN.out]; exact Nat.le_refl _), HT.out])
     have HE2 : Hid (D = 1 + DOT) := hid (by rw [HDJ.out, List.take_of_length_le (by rw [HN.out]; exact Nat.le_refl _), HD.out])
     go_wp2
     refine bodyPost_ret (v := .tuple #[.int .i64 (C : Int), .int .i64 (D : Int)]) (by simp [results, Tryz.results61, go_sem]) rfl ⟨ret_i2 (by rw [HE.out]) (by rw [HE2.out]), HB.out.1⟩
end
end Go.Proofs.YtecglpocmhkkiaaGreatDoor
