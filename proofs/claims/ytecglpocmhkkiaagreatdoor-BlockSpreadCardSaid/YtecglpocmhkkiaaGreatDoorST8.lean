/- NamRd, NodMem, NamRsame, ShelfS, NamInP -/
import Derived.Below
import Derived.BigQuiet
import Derived.ChangeAlike
import Derived.Deep.LoopGhost
import Derived.Deep.QuietTactic
import Derived.Laws.OwnMore
import Derived.Lib.Hide
import Derived.Lib.OwnBridge
import Derived.ProofKit
import Derived.RegionTactic
import Derived.Shelf.Lay
import Derived.Shelf.Slices.CompactS
import Derived.Shelf.Slices.In.SortNone
import Derived.Shelf.Slices.Turned
import Derived.Shelf.Small.Strs
import Derived.Shelf.Sort.Plain
import Derived.Shelf.Spec.SlicesGrow
import Derived.SliceStrings
import Derived.Sort.OwnSorted
import Derived.Test.YtecglpocmhkkiaaGreatDoorProg
import Derived.Test.YtecglpocmhkkiaaGreatDoorRows
import Derived.Test.YtecglpocmhkkiaaGreatDoorST2
import Derived.WalkKit
set_option linter.unusedVariables false
set_option linter.unusedSimpArgs false
set_option maxRecDepth 100000
set_option maxHeartbeats 16000000
open Go.Lib (hid)
namespace Go.Proofs.YtecglpocmhkkiaaGreatDoor
section
open Go.RowKit Go.Sort Go.Lib
open Nw
def ba (x : L8) : ByteArray := ⟨x.toArray⟩
theorem ba_data (x : L8) : (ba x).data.toList = x := by simp [ba]
theorem ba_list (x : L8) : (ba x).toList = x := by rw [ByteArray.toList_eq, ba_data]
theorem ba_of (s : ByteArray) : ba s.data.toList = s := by cases s; simp [ba]
def Rd (w : World) (v : Value) (l : List L8) : Prop :=
 ∃ (a : Option Addr) (cap : Nat), v = .slice a l.length cap ∧ l.length ≤ cap ∧ cap ≤ maxLen ∧
  ((l = [] ∧ (a = none → cap = 0)) ∨ ∃ b o, a = some ⟨b, o, none⟩ ∧ b < w.heap.size ∧ ∀ j (h : j < l.length), w.cell? ⟨b, o + j, none⟩ = some (.string (ba l[j])))
theorem Rd.below {w w' : World} {v : Value} {l : List L8} (h : Rd w v l) (hb : Below w.heap.size w w') : Rd w' v l := by
 obtain ⟨a, cap, rfl, h1, h2, h3⟩ := h
 refine ⟨a, cap, rfl, h1, h2, ?_⟩
 rcases h3 with h3 | ⟨b, o, rfl, h4, h5⟩
 ·exact .inl h3
 ·exact .inr ⟨b, o, rfl, Nat.lt_of_lt_of_le h4 hb.size, fun j hj => (hb.cell (p := ⟨b, o + j, none⟩) h4).trans (h5 j hj)⟩
theorem Rd.cases {w : World} {v : Value} {l : List L8} (h : Rd w v l) :
  (∃ a cap, v = .slice a 0 cap ∧ l = [] ∧ cap ≤ maxLen ∧ (a = none → cap = 0)) ∨ (∃ b o cap, v = .slice (some ⟨b, o, none⟩) l.length cap ∧ l.length ≤ cap ∧ cap ≤ maxLen ∧ b < w.heap.size ∧ ∀ j (h : j < l.length), w.cell? ⟨b, o + j, none⟩ = some (.string (ba l[j]))) := by
 obtain ⟨a, cap, rfl, h1, h2, h3⟩ := h
 rcases h3 with ⟨rfl, hn⟩ | ⟨b, o, rfl, h4, h5⟩
 ·exact .inl ⟨a, cap, rfl, rfl, h2, hn⟩
 ·exact .inr ⟨b, o, cap, rfl, h1, h2, h4, h5⟩
theorem rd_empty (w : World) (a : Option Addr) (cap : Nat) (h : cap ≤ maxLen) (hn : a = none → cap = 0) : Rd w (.slice a 0 cap) [] := ⟨a, cap, rfl, Nat.zero_le _, h, .inl ⟨rfl, hn⟩⟩
theorem rd_of_owns {w : World} {base n : Nat} {e : TypeId} {v : Value} {l : List L8} (h : w.ownsRow base e 1 v n (l.map encStr)) : Rd w v l := by
 have hl : l.length = n := by simpa using h.1
 by_cases hv : v = .slice none 0 0
 ·subst hv
  rcases h.2 with ⟨_, h0⟩ | ⟨g, cap, cur, h0, _⟩
  ·obtain rfl : l = [] := List.length_eq_zero_iff.1 (by omega)
   exact rd_empty w none 0 (Nat.zero_le _) fun _ => rfl
  ·cases h0
 ·obtain ⟨g, cap, rfl, _, hg, h1, h2, _, hH⟩ := holds_of_ownsRow h hv
  subst hl
  refine ⟨_, cap, rfl, h1, h2, .inr ⟨g, 0, rfl, hg, fun j hj => ?_⟩⟩
  have := (hH j (by simpa using hj)).1
  rw [getElem!_pos l.toArray j (by simpa using hj)] at this
  have h2 : w.cell? ⟨g, 0 + j, none⟩ = some (encStr l[j]) := by simpa using this
  exact h2
theorem map_ba (l : List L8) (j : Nat) (h : j < (l.map ba).length) : (l.map ba).getD j ByteArray.empty = ba (l[j]'(by simpa using h)) := by
 rw [List.getD_eq_getElem?_getD, List.getElem?_eq_getElem h]; simp
theorem below_drewN (w : World) (q : Nat) : Below w.heap.size w (w.drewN q) := ⟨rfl, rfl, rfl, Nat.le_refl _, fun _ _ => rfl⟩
end
section
open Go.RowKit Go.Sort
open Nw N8 Go.ChangeShapes Go.WideShapes
def RdS (S : Nat → Prop) (w : World) (v : Value) (l : List L8) : Prop :=
 ∃ (a : Option Addr) (cap : Nat), v = .slice a l.length cap ∧ l.length ≤ cap ∧ cap ≤ maxLen ∧
  ((l = [] ∧ (a = none → cap = 0)) ∨ ∃ b o, a = some ⟨b, o, none⟩ ∧ S b ∧ ∀ j (h : j < l.length), w.cell? ⟨b, o + j, none⟩ = some (.string (ba l[j])))
theorem RdS.keep {S T : Nat → Prop} {w w' : World} {v : Value} {l : List L8} (h : RdS S w v l) (hk : ∀ b, S b → T b ∧ w'.heap[b]? = w.heap[b]?) : RdS T w' v l := by
 obtain ⟨a, cap, rfl, h1, h2, h3⟩ := h
 refine ⟨a, cap, rfl, h1, h2, ?_⟩
 rcases h3 with h3 | ⟨b, o, rfl, h4, h5⟩
 ·exact .inl h3
 ·exact .inr ⟨b, o, rfl, (hk b h4).1, fun j hj => (World.cell?_of_block (hk b h4).2).trans (h5 j hj)⟩
mutual
def NdC (S : Nat → Prop) (w : World) : Nd → Value → Value → Value → Value → Prop
 | .mk k t ks ds, c0, c1, c2, c3 => c0 = .int .i64 k ∧ c1 = .string (ba t) ∧ RdS S w c2 ks ∧
   ∃ (A : Option Addr) (cap : Nat), c3 = .slice A ds.length cap ∧ ds.length ≤ cap ∧ cap ≤ maxLen ∧ (A = none → cap = 0) ∧ NdK S w ds A 0
def NdK (S : Nat → Prop) (w : World) : List Nd → Option Addr → Nat → Prop
 | [], _, _ => True
 | d :: ds, A, i => (∃ (b o : Nat) (c0 c1 c2 c3 : Value), A = some ⟨b, o, none⟩ ∧ S b ∧ w.cell? ⟨b, o + i * 4, none⟩ = some c0 ∧ w.cell? ⟨b, o + i * 4 + 1, none⟩ = some c1 ∧
   w.cell? ⟨b, o + i * 4 + 2, none⟩ = some c2 ∧ w.cell? ⟨b, o + i * 4 + 3, none⟩ = some c3 ∧ NdC S w d c0 c1 c2 c3) ∧ NdK S w ds A (i + 1)
end
mutual
theorem NdC.keep {S T : Nat → Prop} {w w' : World} (hk : ∀ b, S b → T b ∧ w'.heap[b]? = w.heap[b]?) : ∀ (d : Nd) {c0 c1 c2 c3 : Value}, NdC S w d c0 c1 c2 c3 → NdC T w' d c0 c1 c2 c3
 | .mk k t ks ds, c0, c1, c2, c3, h => by
  rw [NdC] at h ⊢
  obtain ⟨h0, h1, h2, A, cap, h3, h4, h5, h6, h7⟩ := h
  exact ⟨h0, h1, h2.keep hk, A, cap, h3, h4, h5, h6, NdK.keep hk ds h7⟩
theorem NdK.keep {S T : Nat → Prop} {w w' : World} (hk : ∀ b, S b → T b ∧ w'.heap[b]? = w.heap[b]?) : ∀ (ds : List Nd) {A : Option Addr} {i : Nat}, NdK S w ds A i → NdK T w' ds A i
 | [], A, i, _ => by rw [NdK]; trivial
 | d :: ds, A, i, h => by
  rw [NdK] at h ⊢
  obtain ⟨⟨b, o, c0, c1, c2, c3, hA, hS, e0, e1, e2, e3, hd⟩, hds⟩ := h
  exact ⟨⟨b, o, c0, c1, c2, c3, hA, (hk b hS).1, (World.cell?_of_block (hk b hS).2).trans e0, (World.cell?_of_block (hk b hS).2).trans e1, (World.cell?_of_block (hk b hS).2).trans e2, (World.cell?_of_block (hk b hS).2).trans e3, NdC.keep hk d hd⟩, NdK.keep hk ds hds⟩
end
theorem NdK.at_ {S : Nat → Prop} {w : World} : ∀ {ds : List Nd} {A : Option Addr} {i : Nat}, NdK S w ds A i → ∀ (j : Nat) (h : j < ds.length),
  ∃ (b o : Nat) (c0 c1 c2 c3 : Value), A = some ⟨b, o, none⟩ ∧ S b ∧ w.cell? ⟨b, o + (i + j) * 4, none⟩ = some c0 ∧ w.cell? ⟨b, o + (i + j) * 4 + 1, none⟩ = some c1 ∧
   w.cell? ⟨b, o + (i + j) * 4 + 2, none⟩ = some c2 ∧ w.cell? ⟨b, o + (i + j) * 4 + 3, none⟩ = some c3 ∧ NdC S w (ds[j]'h) c0 c1 c2 c3
 | d :: ds, A, i, h, 0, _ => by rw [NdK] at h; exact h.1
 | d :: ds, A, i, h, j + 1, hj => by
  rw [NdK] at h
  have := NdK.at_ h.2 j (Nat.lt_of_succ_lt_succ hj)
  rw [show i + (j + 1) = i + 1 + j by omega]
  exact this
theorem ndK_of {S : Nat → Prop} {w : World} {A : Option Addr} : ∀ (ds : List Nd) (i : Nat), (∀ (j : Nat) (h : j < ds.length),
  ∃ (b o : Nat) (c0 c1 c2 c3 : Value), A = some ⟨b, o, none⟩ ∧ S b ∧ w.cell? ⟨b, o + (i + j) * 4, none⟩ = some c0 ∧ w.cell? ⟨b, o + (i + j) * 4 + 1, none⟩ = some c1 ∧
   w.cell? ⟨b, o + (i + j) * 4 + 2, none⟩ = some c2 ∧ w.cell? ⟨b, o + (i + j) * 4 + 3, none⟩ = some c3 ∧ NdC S w (ds[j]'h) c0 c1 c2 c3) → NdK S w ds A i
 | [], i, _ => by rw [NdK]; trivial
 | d :: ds, i, h => by
  rw [NdK]
  refine ⟨h 0 (Nat.succ_pos _), ndK_of ds (i + 1) fun j hj => ?_⟩
  have := h (j + 1) (Nat.succ_lt_succ hj)
  rw [show i + 1 + j = i + (j + 1) by omega]
  exact this
def NdW (w : World) (d : Nd) (c0 c1 c2 c3 : Value) : Prop := NdC (· < w.heap.size) w d c0 c1 c2 c3
theorem NdW.below {w w' : World} {d : Nd} {c0 c1 c2 c3 : Value} (h : NdW w d c0 c1 c2 c3) (hb : Below w.heap.size w w') : NdW w' d c0 c1 c2 c3 :=
 NdC.keep (fun b hlt => ⟨Nat.lt_of_lt_of_le hlt hb.size, hb.block b hlt⟩) d h
theorem NdW.parts {w : World} {k : Int} {t : L8} {ks : List L8} {ds : List Nd} {c0 c1 c2 c3 : Value} (h : NdW w (.mk k t ks ds) c0 c1 c2 c3) :
  c0 = .int .i64 k ∧ c1 = .string (ba t) ∧ Rd w c2 ks ∧ ∃ (A : Option Addr) (cap : Nat), c3 = .slice A ds.length cap ∧ ds.length ≤ cap ∧ cap ≤ maxLen ∧ (A = none → cap = 0) ∧
   ∀ (j : Nat) (h : j < ds.length), ∃ (b o : Nat) (e0 e1 e2 e3 : Value), A = some ⟨b, o, none⟩ ∧ b < w.heap.size ∧ w.cell? ⟨b, o + j * 4, none⟩ = some e0 ∧ w.cell? ⟨b, o + j * 4 + 1, none⟩ = some e1 ∧
    w.cell? ⟨b, o + j * 4 + 2, none⟩ = some e2 ∧ w.cell? ⟨b, o + j * 4 + 3, none⟩ = some e3 ∧ NdW w (ds[j]'h) e0 e1 e2 e3 := by
 unfold NdW at h
 rw [NdC] at h
 obtain ⟨h0, h1, h2, A, cap, h3, h4, h5, h6, h7⟩ := h
 refine ⟨h0, h1, h2, A, cap, h3, h4, h5, h6, fun j hj => ?_⟩
 have := NdK.at_ h7 j hj
 rw [Nat.zero_add] at this
 exact this
theorem cell_lt {W : World} {p : Addr} {v : Value} (h : W.cell? p = some v) : p.block < W.heap.size := by
 rcases Nat.lt_or_ge p.block W.heap.size with h1 | h1
 ·exact h1
 ·have : W.heap[p.block]? = none := Array.getElem?_eq_none h1
  simp [World.cell?, this] at h
section
variable {H : Type} {enc : TypeId × Value → H} {W : World} {base : Nat} {spare : Nat → Bool} {held : Bool}
end
end
section
open Go.RowKit Go.Sort
open Nw
theorem ret_bool {a b : Bool} (h : a = b) : Ending.returned (.bool a) = .returned (.bool b) := by rw [h]
theorem str_ne_true {x y : L8} (h : x ≠ y) : ((ba x).toList == (ba y).toList) = false := by rw [ba_list, ba_list]; exact beq_eq_false_iff_ne.2 h
theorem str_ne_false {x : L8} : ((ba x).toList == (ba x).toList) = true := by simp
theorem RSame_any (v u : Value) (l m : List L8) (w : World) (h : Rd w v l) (k : Rd w u m) :
  Calls Tryz.prog 22 #[v, u] w fun e w' => e = .returned (.bool (decide (l = m))) ∧ Below w.heap.size w w' := by
 obtain ⟨a, cap, rfl, h1, h2, h3⟩ := h
 obtain ⟨a2, cap2, rfl, k1, k2, k3⟩ := k
 unfold maxLen at h2 k2
 by_cases hlen : l.length = m.length
 ·obtain ⟨n, hn⟩ : ∃ n, n = l.length := ⟨_, rfl⟩
  have hm : n = m.length := by omega
  have HN : Hid (n = l.length ∧ n = m.length) := hid ⟨hn, hm⟩
  rw [← hn, ← hm]
  rw [← hn] at h1
  rw [← hm] at k1
  clear hn hm hlen
  go_enter Tryz.func22, Tryz.ntmps22
  go_wp2
  go_loopw [5] (fun i wr => ∃ k : Nat, k ≤ n ∧ i = .int .i64 k ∧ (∀ j (hj : j < l.length) (hj' : j < m.length), j < k → l[j] = m[j]) ∧ Below w.heap.size w wr) (fun i _ => n - (intOf i).toNat)
  case atStart => exact ⟨0, Nat.zero_le _, rfl, fun j _ _ h => absurd h (Nat.not_lt_zero _), Below.refl _ _⟩
  case round =>
   obtain ⟨k, hk, rfl, hall, hbel⟩ := hrel
   have HA := hid hall; clear hall
   have HB := hid hbel; clear hbel
   by_cases hlt : k < n
   ·have hl : Hid (k < l.length) := hid (by have := HN.out.1; omega)
    have hm : Hid (k < m.length) := hid (by have := HN.out.2; omega)
    rcases h3 with ⟨rfl, _⟩ | ⟨b, o, rfl, h4, h5⟩
    ·exact absurd hl.out (Nat.not_lt_zero _)
    rcases k3 with ⟨rfl, _⟩ | ⟨b2, o2, rfl, k4, k5⟩
    ·exact absurd hm.out (Nat.not_lt_zero _)
    have hc := (HB.out.cell (p := ⟨b, o + k, none⟩) h4).trans (h5 k hl.out)
    have kc := (HB.out.cell (p := ⟨b2, o2 + k, none⟩) k4).trans (k5 k hm.out)
    clear h5 k5
    have hltz : (k : Int) < (n : Int) := by omega
    by_cases he : l[k]'hl.out = m[k]'hm.out
    ·have HE := hid he
     have b1 := str_ne_false (x := l[k]'hl.out)
     rw [← he] at kc
     clear he
     generalize ba (l[k]'hl.out) = x at hc kc b1
     go_wp2
     go_quiet (fail)
     go_wp2
     go_roundw
     case rel =>
      refine ⟨k + 1, by omega, by go_num, fun j hj hj' hjk => ?_, ?_⟩
      ·rcases Nat.lt_succ_iff_lt_or_eq.1 hjk with h | rfl
       ·exact HA.out j hj hj' h
       ·exact HE.out
      ·exact HB.out.trans ((below_drewN _ _).mono HB.out.size)
     case measure => simp [intOf]; omega
    ·have HE := hid he
     have b1 := str_ne_true he
     clear he
     generalize ba (l[k]'hl.out) = x at hc b1
     generalize ba (m[k]'hm.out) = y at kc b1
     go_wp2
     go_quiet (fail)
     go_wp2
     go_ret
     exact ⟨ret_bool (decide_eq_false fun e => HE.out (by subst e; rfl)).symm, HB.out.trans ((below_drewN _ _).mono HB.out.size)⟩
   ·go_wp2
    go_ret
    refine ⟨ret_bool (decide_eq_true (List.ext_getElem (by rw [← HN.out.1, ← HN.out.2]) fun j hj hj' => HA.out j hj hj' ?_)).symm, HB.out⟩
    have := HN.out.1
    omega
 ·have H : Hid (l ≠ m) := hid fun e => hlen (by rw [e])
  have hz : ¬ (l.length : Int) = (m.length : Int) := by omega
  go_enter Tryz.func22, Tryz.ntmps22
  go_wp2
  go_ret
  exact ⟨ret_bool (decide_eq_false H.out).symm, Below.refl _ _⟩
end
end Go.Proofs.YtecglpocmhkkiaaGreatDoor
namespace Go.Proofs
open Go.Shelf
def Tryz.lays190_ren : Go.Shelf.Ren := ⟨fun | 190 => 156 | 125 => 169 | 258 => 168 | 128 => 184 | 129 => 185 | 302 => 175 | 303 => 176 | 304 => 177 | 305 => 178 | 306 => 179 | 307 => 180 | 308 => 181 | 309 => 182 | 310 => 183 | 333 => 190 | 329 => 191 | 330 => 192 | 334 => 193 | 335 => 194 | 336 => 195 | 344 => 197 | n => n, fun | 31 => 23 | 9 => 9 | 3 => 3 | 46 => 122 | 0 => 0 | 51 => 133 | 53 => 177 | 4 => 4 | 183 => 170 | 182 => 169 | 131 => 76 | 5 => 5 | 218 => 178 | 222 => 182 | 228 => 185 | 229 => 80 | n => n, fun | n => n⟩
theorem Tryz.lays190 : Go.Proofs.Lays.n190 Tryz.prog Tryz.lays190_ren := {
 mixed := by kernel_rfl
 f125 := Tryz.func169.trans (congrArg some (by kernel_rfl))
 f128 := Tryz.func184.trans (congrArg some (by kernel_rfl))
 f129 := Tryz.func185.trans (congrArg some (by kernel_rfl))
 f190 := Tryz.func156.trans (congrArg some (by kernel_rfl))
 f258 := Tryz.func168.trans (congrArg some (by kernel_rfl))
 f302 := Tryz.func175.trans (congrArg some (by kernel_rfl))
 f303 := Tryz.func176.trans (congrArg some (by kernel_rfl))
 f304 := Tryz.func177.trans (congrArg some (by kernel_rfl))
 f305 := Tryz.func178.trans (congrArg some (by kernel_rfl))
 f306 := Tryz.func179.trans (congrArg some (by kernel_rfl))
 f307 := Tryz.func180.trans (congrArg some (by kernel_rfl))
 f308 := Tryz.func181.trans (congrArg some (by kernel_rfl))
 f309 := Tryz.func182.trans (congrArg some (by kernel_rfl))
 f310 := Tryz.func183.trans (congrArg some (by kernel_rfl))
 f329 := Tryz.func191.trans (congrArg some (by kernel_rfl))
 f330 := Tryz.func192.trans (congrArg some (by kernel_rfl))
 f333 := Tryz.func190.trans (congrArg some (by kernel_rfl))
 f334 := Tryz.func193.trans (congrArg some (by kernel_rfl))
 f335 := Tryz.func194.trans (congrArg some (by kernel_rfl))
 f336 := Tryz.func195.trans (congrArg some (by kernel_rfl))
 f344 := Tryz.func197.trans (congrArg some (by kernel_rfl))
 t0 := Tryz.underlying0
 a0 := Tryz.isAgg0
 z0 := Tryz.sizeOf0
 v0 := Tryz.zeroValue0
 t3 := Tryz.underlying3
 a3 := Tryz.isAgg3
 z3 := Tryz.sizeOf3
 v3 := Tryz.zeroValue3
 t4 := Tryz.underlying4
 a4 := Tryz.isAgg4
 z4 := Tryz.sizeOf4
 v4 := Tryz.zeroValue4
 t5 := Tryz.underlying5
 a5 := Tryz.isAgg5
 z5 := Tryz.sizeOf5
 v5 := Tryz.zeroValue5
 t9 := Tryz.underlying9
 a9 := Tryz.isAgg9
 z9 := Tryz.sizeOf9
 v9 := Tryz.zeroValue9
 t31 := Tryz.underlying23
 a31 := Tryz.isAgg23
 z31 := Tryz.sizeOf23
 v31 := Tryz.zeroValue23
 t46 := Tryz.underlying122
 a46 := Tryz.isAgg122
 z46 := Tryz.sizeOf122
 v46 := Tryz.zeroValue122
 t51 := Tryz.underlying133
 a51 := Tryz.isAgg133
 z51 := Tryz.sizeOf133
 v51 := Tryz.zeroValue133
 t53 := Tryz.underlying177
 a53 := Tryz.isAgg177
 z53 := Tryz.sizeOf177
 v53 := Tryz.zeroValue177
 t131 := Tryz.underlying76
 a131 := Tryz.isAgg76
 z131 := Tryz.sizeOf76
 v131 := Tryz.zeroValue76
 t182 := Tryz.underlying169
 a182 := Tryz.isAgg169
 z182 := Tryz.sizeOf169
 v182 := Tryz.zeroValue169
 t183 := Tryz.underlying170
 a183 := Tryz.isAgg170
 z183 := Tryz.sizeOf170
 v183 := Tryz.zeroValue170
 t218 := Tryz.underlying178
 a218 := Tryz.isAgg178
 z218 := Tryz.sizeOf178
 v218 := Tryz.zeroValue178
 t222 := Tryz.underlying182
 a222 := Tryz.isAgg182
 z222 := Tryz.sizeOf182
 v222 := Tryz.zeroValue182
 t228 := Tryz.underlying185
 a228 := Tryz.isAgg185
 z228 := Tryz.sizeOf185
 v228 := Tryz.zeroValue185
 t229 := Tryz.underlying80
 a229 := Tryz.isAgg80
 z229 := Tryz.sizeOf80
 v229 := Tryz.zeroValue80 }
open Go.Sort Go.RowKit in
theorem Tryz.slices_Sort_string (blk off cap : Nat) (ss : List (List UInt8)) (w : World) (hH : Holds encStr w blk off ss.toArray) (hblk : blk < w.heap.size) (hsz : ss.length < 4611686018427387904) :
  Calls Tryz.prog 156 #[.slice (some ⟨blk, off, none⟩) ss.length cap] w fun e w' =>
   e = .returned (.tuple #[]) ∧ ∃ n os, w' = grow (putRow encStr (Sort.ahead w n) blk off (ss.mergeSort fun x y => decide (x ≤ y)).toArray) os := Any.slices_Sort_string Tryz.lays190 blk off cap ss w hH hblk hsz
def Tryz.lays110_ren : Go.Shelf.Ren := ⟨fun | 110 => 114 | 109 => 132 | n => n, fun | 31 => 23 | 9 => 9 | 4 => 4 | 3 => 3 | 0 => 0 | n => n, fun | n => n⟩
theorem Tryz.lays110 : Go.Proofs.Lays.n110 Tryz.prog Tryz.lays110_ren := {
 mixed := by kernel_rfl
 f109 := Tryz.func132.trans (congrArg some (by kernel_rfl))
 f110 := Tryz.func114.trans (congrArg some (by kernel_rfl))
 t0 := Tryz.underlying0
 a0 := Tryz.isAgg0
 z0 := Tryz.sizeOf0
 v0 := Tryz.zeroValue0
 t3 := Tryz.underlying3
 a3 := Tryz.isAgg3
 z3 := Tryz.sizeOf3
 v3 := Tryz.zeroValue3
 t4 := Tryz.underlying4
 a4 := Tryz.isAgg4
 z4 := Tryz.sizeOf4
 v4 := Tryz.zeroValue4
 t9 := Tryz.underlying9
 a9 := Tryz.isAgg9
 z9 := Tryz.sizeOf9
 v9 := Tryz.zeroValue9
 t31 := Tryz.underlying23
 a31 := Tryz.isAgg23
 z31 := Tryz.sizeOf23
 v31 := Tryz.zeroValue23 }
open Go.Lib in
theorem Tryz.slices_Contains_string (b off n c : Nat) (zs : List ByteArray) (x : ByteArray) (w : World) (hz : n ≤ zs.length) (hbig : n ≤ 9223372036854775807) (hc : ∀ j, j < zs.length → w.cell? ⟨b, off + j, none⟩ = some (.string (zs.getD j ByteArray.empty))) :
  Calls Tryz.prog 114 #[.slice (some ⟨b, off, none⟩) n c, .string x] w fun e w' => e = .returned (.bool (Lib.containsS (zs.take n) x)) ∧ w' = w := Any.slices_Contains_string Tryz.lays110 b off n c zs x w hz hbig hc
open Go.Lib in
theorem Tryz.slices_Contains_string_empty (a : Option Addr) (c : Nat) (x : ByteArray) (w : World) :
  Calls Tryz.prog 114 #[.slice a 0 c, .string x] w fun e w' => e = .returned (.bool false) ∧ w' = w := Any.slices_Contains_string_empty Tryz.lays110 a c x w
def Tryz.lays194_ren : Go.Shelf.Ren := ⟨fun | 194 => 157 | n => n, fun | 31 => 23 | 9 => 9 | 3 => 3 | 4 => 4 | 0 => 0 | n => n, fun | n => n⟩
theorem Tryz.lays194 : Go.Proofs.Lays.n194 Tryz.prog Tryz.lays194_ren := {
 mixed := by kernel_rfl
 f194 := Tryz.func157.trans (congrArg some (by kernel_rfl))
 t0 := Tryz.underlying0
 a0 := Tryz.isAgg0
 z0 := Tryz.sizeOf0
 v0 := Tryz.zeroValue0
 t3 := Tryz.underlying3
 a3 := Tryz.isAgg3
 z3 := Tryz.sizeOf3
 v3 := Tryz.zeroValue3
 t4 := Tryz.underlying4
 a4 := Tryz.isAgg4
 z4 := Tryz.sizeOf4
 v4 := Tryz.zeroValue4
 t9 := Tryz.underlying9
 a9 := Tryz.isAgg9
 z9 := Tryz.sizeOf9
 v9 := Tryz.zeroValue9
 t31 := Tryz.underlying23
 a31 := Tryz.isAgg23
 z31 := Tryz.sizeOf23
 v31 := Tryz.zeroValue23 }
open Go.RowKit Go.Lib Go.Sort in
theorem Tryz.slices_Compact_string (blk off cap : Nat) (zs : List (List UInt8)) (w : World) (hH : Holds encStr w blk off zs.toArray) (hsz : zs.length ≤ 9223372036854775807) (hcap : zs.length ≤ cap) :
  Calls Tryz.prog 157 #[.slice (some ⟨blk, off, none⟩) zs.length cap] w fun e w' => e = .returned (.slice (some ⟨blk, off, none⟩) (Lib.compact zs).length cap) ∧ ∃ q, w' = putRow encStr (Sort.ahead w q) blk off (Lib.compact zs ++ List.replicate (zs.length - (Lib.compact zs).length) []).toArray := Any.slices_Compact_string Tryz.lays194 blk off cap zs w hH hsz hcap
open Go.RowKit Go.Lib Go.Sort in
theorem Tryz.slices_Compact_string_empty (a : Option Addr) (cap : Nat) (w : World) :
  Calls Tryz.prog 157 #[.slice a 0 cap] w fun e w' => e = .returned (.slice a 0 cap) ∧ w' = w := Any.slices_Compact_string_empty Tryz.lays194 a cap w
open Go.RowKit Go.Sort in
theorem Tryz.slices_Sort_string_none (p : Option Addr) (cap : Nat) (w : World) :
  Calls Tryz.prog 156 #[.slice p 0 cap] w fun e w' => e = .returned (.tuple #[]) ∧ w' = w := Any.slices_Sort_string_none Tryz.lays190 p cap w
def Tryz.lays8n4_ren : Go.Shelf.Ren := ⟨fun | 4 => 158 | n => n, fun | 22 => 23 | 25 => 9 | 3 => 3 | 4 => 4 | 9 => 9 | 20 => 20 | 0 => 0 | n => n, fun | n => n⟩
theorem Tryz.lays8n4 : Go.Proofs.Lays8.n4 Tryz.prog Tryz.lays8n4_ren := {
 mixed := by kernel_rfl
 f4 := ⟨Tryz.f158.name, by decide, Tryz.func158.trans (congrArg some (by kernel_rfl))⟩
 t0 := Tryz.underlying0
 a0 := Tryz.isAgg0
 z0 := Tryz.sizeOf0
 v0 := Tryz.zeroValue0
 t3 := Tryz.underlying3
 a3 := Tryz.isAgg3
 z3 := Tryz.sizeOf3
 v3 := Tryz.zeroValue3
 t4 := Tryz.underlying4
 a4 := Tryz.isAgg4
 z4 := Tryz.sizeOf4
 v4 := Tryz.zeroValue4
 t9 := Tryz.underlying9
 a9 := Tryz.isAgg9
 z9 := Tryz.sizeOf9
 v9 := Tryz.zeroValue9
 t20 := Tryz.underlying20
 a20 := Tryz.isAgg20
 z20 := Tryz.sizeOf20
 v20 := Tryz.zeroValue20
 t22 := Tryz.underlying23
 a22 := Tryz.isAgg23
 z22 := Tryz.sizeOf23
 v22 := Tryz.zeroValue23 }
open Go.RowKit in
theorem Tryz.slices_Grow_room (base : Option Addr) (l c n : Nat) (w : World) (hlc : l ≤ c) (hc63 : c ≤ 9223372036854775807) (hn63 : n ≤ 9223372036854775807) (hroom : l + n ≤ c) :
  Calls Tryz.prog 158 #[.slice base l c, .int .i64 n] w fun e w' => e = .returned (.slice base l c) ∧ w' = w := Any8.slices_Grow_room Tryz.lays8n4 base l c n w hlc hc63 hn63 hroom
open Go.RowKit Go.Lib in
theorem Tryz.slices_Grow_grow (i0 : TypeInfo) (z : Value) (hi0 : Tryz.prog.info? 9 = some i0) (hz0 : i0.zero = some z) (hs0 : 0 < i0.size)
  (base : Option Addr) (l c n : Nat) (cs : List Value) (w : World) (hlc : l ≤ c) (hroom : c < l + n) (hbig : (l + n) * i0.bytes ≤ 140737488355328) (h63 : l + n ≤ 4611686018427387904)
  (hcl : cs.length = c * i0.size) (hnil : base = none → c = 0) (hcs : ∀ a, base = some a → ∀ j v, cs[j]? = some v → w.cell? (a.add j) = some v) :
  Calls Tryz.prog 158 #[.slice base l c, .int .i64 n] w fun e w' =>
   e = .returned (.slice (some ⟨w.heap.size, 0, none⟩) l (grownCap w (l + n) c 9)) ∧
   w' = w.drew.alloc (.cells (cs.toArray ++ Builtin.zeroCells z.cells (l + n - c) ++ Builtin.zeroCells z.cells (grownCap w (l + n) c 9 - (l + n))) 9) := Any8.slices_Grow_grow Tryz.lays8n4 i0 z hi0 hz0 hs0 base l c n cs w hlc hroom hbig h63 hcl hnil hcs
end Go.Proofs
namespace Go.Proofs.YtecglpocmhkkiaaGreatDoor
section
open Go.RowKit Go.Sort
open Nw
theorem containsS_mem (l : List L8) (s : ByteArray) : Lib.containsS ((l.map ba).take l.length) s = decide (s.data.toList ∈ l) := by
 rw [List.take_of_length_le (by simp)]
 rw [Bool.eq_iff_iff, Lib.containsS_iff, decide_eq_true_eq]
 constructor
 ·intro h
  obtain ⟨x, hx, rfl⟩ := List.mem_map.1 h
  rwa [ba_data]
 ·intro h; exact List.mem_map.2 ⟨_, h, ba_of s⟩
theorem In_any (v : Value) (l : List L8) (s : ByteArray) (w : World) (h : Rd w v l) :
  Calls Tryz.prog 93 #[v, .string s] w fun e w' => e = .returned (.bool (decide (s.data.toList ∈ l))) ∧ w = w' := by
 rcases h.cases with ⟨a, cap, rfl, rfl, _⟩ | ⟨b, o, cap, rfl, h1, h2, h3, h4⟩
 ·have hcon := Tryz.slices_Contains_string_empty a cap s w
  go_enter Tryz.func93, Tryz.ntmps93
  go_wp2_with (go_at_call 114; refine hcon.mono ?_; rintro e w' ⟨rfl, rfl⟩)
  go_ret
  exact ⟨ret_bool (by simp), rfl⟩
 ·have hcon := Tryz.slices_Contains_string b o l.length cap (l.map ba) s w (by simp) (by unfold maxLen at h2; omega) (fun j hj => by rw [map_ba l j hj]; exact h4 j (by simpa using hj))
  rw [containsS_mem] at hcon
  clear h h4
  generalize decide (s.data.toList ∈ l) = r at hcon ⊢
  go_enter Tryz.func93, Tryz.ntmps93
  go_wp2_with (go_at_call 114; refine hcon.mono ?_; rintro e w' ⟨rfl, rfl⟩)
  go_ret
  exact ⟨rfl, rfl⟩
end
end Go.Proofs.YtecglpocmhkkiaaGreatDoor
