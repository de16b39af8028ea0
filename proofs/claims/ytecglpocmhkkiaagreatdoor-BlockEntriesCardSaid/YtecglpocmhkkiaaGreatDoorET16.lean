/- RefNod2, RefFlo1, NamRsame, RefNod3, NamRsort, RefNod6, RefFlo3, RefBlo1, LinSame, NamInP, BloSmall, BloEx -/
import Derived.BigQuiet
import Derived.ChangeAlike
import Derived.Deep.LoopGhost
import Derived.Deep.QuietTactic
import Derived.Deep.RegionHeld3
import Derived.Laws.Cover1
import Derived.Laws.OwnMore
import Derived.RegionTactic
import Derived.StillTailTactics
import Derived.Test.YtecglpocmhkkiaaGreatDoorET10
import Derived.Test.YtecglpocmhkkiaaGreatDoorET14
import Derived.Test.YtecglpocmhkkiaaGreatDoorET15
import Derived.Test.YtecglpocmhkkiaaGreatDoorET2
import Derived.Test.YtecglpocmhkkiaaGreatDoorET3
import Derived.Test.YtecglpocmhkkiaaGreatDoorET4
import Derived.Test.YtecglpocmhkkiaaGreatDoorET5
import Derived.Test.YtecglpocmhkkiaaGreatDoorET6
set_option linter.unusedVariables false
set_option linter.unusedSimpArgs false
set_option maxRecDepth 100000
set_option maxHeartbeats 16000000
open Go.Lib (hid)
namespace Go.Proofs.YtecglpocmhkkiaaGreatDoor
section
open Go.RowKit Go.Sort
open Nw N8
theorem rd_slice {w : World} {v : Value} {l : List L8} (h : Rd w v l) : ∃ (a : Option Addr) (cap : Nat), v = .slice a l.length cap ∧ l.length ≤ cap ∧ cap ≤ maxLen := by
 obtain ⟨a, cap, hv, h1, h2, _⟩ := h
 exact ⟨a, cap, hv, h1, h2⟩
theorem Boxed.keys {w0 w : World} {k : Int} {t : L8} {ks : List L8} {ds : List Nd} {c0 c1 c2 c3 : Value} (h : Boxed w0 w (.mk k t ks ds) c0 c1 c2 c3) : Rd w c2 ks := h.2.2.parts.2.2.1
end
section
open Go.RowKit Go.Sort
open Nw N8 Q6 F9
theorem ret_s9 {a b : ByteArray} (h : a.data.toList = b.data.toList) : Ending.returned (.string a) = .returned (.string b) := by
 have : a = b := by rw [← ba_of a, ← ba_of b, h]
 rw [this]
theorem ret_bb {a b : Bool} (h : a = b) : Ending.returned (.bool a) = .returned (.bool b) := by rw [h]
theorem ret_i {a b : Int} (h : a = b) : Ending.returned (.int .i64 a) = .returned (.int .i64 b) := by rw [h]
end
section
open Go.RowKit Go.Sort
open Nw
theorem ret_bool {a b : Bool} (h : a = b) : Ending.returned (.bool a) = .returned (.bool b) := by rw [h]
end
section
open Go.RowKit Go.Sort
open Nw N8
theorem below_drew (w : World) : Below w.heap.size w w.drew := ⟨rfl, rfl, rfl, Nat.le_refl _, fun _ _ => rfl⟩
end
section
open Go.RowKit Go.Sort
open Nw Go.ChangeShapes Go.WideShapes
theorem infoM : (Tryz.prog.info? 9).map (fun i => (i.zero, i.size, i.bytes)) = some (some (.string ByteArray.empty), 1, 16) := by kernel_rfl
theorem infoS : ∃ i, Tryz.prog.info? 9 = some i ∧ i.zero = some (.string ByteArray.empty) ∧ i.size = 1 ∧ i.bytes = 16 := by
 have h := infoM
 cases hi : Tryz.prog.info? 9 with
 | none => rw [hi] at h; cases h
 | some i =>
  rw [hi] at h
  simp only [Option.map_some, Option.some.injEq, Prod.mk.injEq] at h
  exact ⟨i, rfl, h.1, h.2.1, h.2.2⟩
end
section
open Go.RowKit Go.Sort
open Nw N8
theorem nd_nul (S : Nat → Prop) (w : World) : NdC S w nul (.int .i64 0) (.string ⟨#[]⟩) (.slice none 0 0) (.slice none 0 0) := by
 unfold nul
 rw [NdC]
 refine ⟨rfl, rfl, ?_, none, 0, rfl, Nat.zero_le _, Nat.zero_le _, fun _ => rfl, ?_⟩
 ·exact ⟨none, 0, rfl, Nat.zero_le _, Nat.zero_le _, .inl ⟨rfl, fun _ => rfl⟩⟩
 ·rw [NdK]; trivial
end
end Go.Proofs.YtecglpocmhkkiaaGreatDoor
namespace Go.Proofs.YtecglpocmhkkiaaGreatDoor
open Go.RowKit Go.Sort
open Nw N8 Q6 F9
namespace F9
theorem plain_first {t : L8} (h : plainB t = true) : t ≠ [] ∧ has firsts (t.getD 0 0) = false := by
 unfold plainB at h
 by_cases hb : bad3 t = true
 ·rw [if_pos hb] at h; cases h
 ·rw [if_neg hb] at h
  have hne : t ≠ [] := by
   rintro rfl
   exact hb (by decide)
  refine ⟨hne, ?_⟩
  have h1 := every_iff.1 h 0 (List.length_pos_iff.2 hne)
  unfold okI at h1
  rw [show bef t 0 = 10 by simp [bef]] at h1
  unfold plainF at h1
  rw [Bool.eq_false_iff]; intro e
  rw [e] at h1
  revert h1; simp [isC]
theorem row_plain {t : L8} (h : rowB t = true) : plainB t = true := by
 unfold rowB at h
 rw [Bool.and_eq_true] at h
 exact h.1
theorem headD_getD (l : L8) : l.headD 0 = l.getD 0 0 := by cases l <;> rfl
theorem plain_notQ {t : L8} (h : isQ (t.headD 0) = true) : plainB t = false ∧ rowB t = false := by
 have key : plainB t = false := by
  rw [Bool.eq_false_iff]; intro e
  have h1 := (plain_first e).2
  rw [← headD_getD] at h1
  have h2 : (t.headD 0) ∉ firsts := of_decide_eq_false h1
  unfold isQ at h
  rw [Bool.or_eq_true] at h
  rcases h with h | h
  ·exact h2 (by rw [of_decide_eq_true h]; decide)
  ·exact h2 (by rw [of_decide_eq_true h]; decide)
 exact ⟨key, Bool.eq_false_iff.2 fun e => by rw [row_plain e] at key; cases key⟩
def scK (P : Option Nd) : Int := (P.getD nul).kind
def scT (P : Option Nd) : ByteArray := ba (P.getD nul).text
theorem scan_zero {l : L8} (h : l ≠ []) : (isQ (l.headD 0) = true → scanV l 0 = outV (scnP l) ∧ scanN l 0 = outN (scnP l) ∧ scanE l 0 = outE (scnP l)) ∧ (isQ (l.headD 0) = false → scanE l 0 = 2) := by
 have hp : 0 < l.length := List.length_pos_iff.2 h
 have e : isQuote l 0 = isQ (l.headD 0) := by
  unfold isQuote isQ
  rw [headD_getD, decide_eq_true (show (0 : Int) ≤ 0 by omega), decide_eq_true (show (0 : Int) < (l.length : Int) by omega)]
  rfl
 refine ⟨fun hq => ?_, fun hq => ?_⟩
 ·exact scan_is (e.trans hq)
 ·exact (scan_no (e.trans hq)).2.2
end F9
def p4 (w : World) (g : Nat) (a b c d : Value) : World := (((w.setCell ⟨g, 0, none⟩ a).setCell ⟨g, 1, none⟩ b).setCell ⟨g, 2, none⟩ c).setCell ⟨g, 3, none⟩ d
theorem below_p4 {B : Nat} {w w' : World} {g : Nat} (h : Below B w w') (hg : B ≤ g) (a b c d : Value) : Below B w (p4 w' g a b c d) :=
 (((h.setCell (p := ⟨g, 0, none⟩) hg a).setCell (p := ⟨g, 1, none⟩) hg b).setCell (p := ⟨g, 2, none⟩) hg c).setCell (p := ⟨g, 3, none⟩) hg d
theorem p4_oth {w : World} {g : Nat} (b : Nat) (hb : b ≠ g) (a' b' c' d' : Value) : (p4 w g a' b' c' d').heap[b]? = w.heap[b]? := by
 unfold p4
 rw [Below.heap_setCell _ _ _ _ (by show b ≠ g; omega), Below.heap_setCell _ _ _ _ (by show b ≠ g; omega), Below.heap_setCell _ _ _ _ (by show b ≠ g; omega), Below.heap_setCell _ _ _ _ (by show b ≠ g; omega)]
theorem p4_size (w : World) (g : Nat) (a b c d : Value) : (p4 w g a b c d).heap.size = w.heap.size := by unfold p4; simp
theorem nd_txt (S : Nat → Prop) (w : World) (q : ByteArray) : NdC S w (txt q.data.toList) (.int .i64 1) (.string q) (.slice none 0 0) (.slice none 0 0) := by
 unfold txt
 rw [NdC]
 refine ⟨rfl, by rw [ba_of], ⟨none, 0, rfl, Nat.zero_le _, Nat.zero_le _, .inl ⟨rfl, fun _ => rfl⟩⟩, none, 0, rfl, Nat.zero_le _, Nat.zero_le _, fun _ => rfl, ?_⟩
 rw [NdK]; trivial
theorem nd_scl {row : Bool} {l : L8} (S : Nat → Prop) (w : World) : NdC S w ((sclS row l).getD nul) (.int .i64 (scK (sclS row l))) (.string (scT (sclS row l))) (.slice none 0 0) (.slice none 0 0) := by
 have key : ∀ P : Option Nd, (P = none ∨ P = some nul ∨ ∃ t, P = some (txt t)) → NdC S w (P.getD nul) (.int .i64 (scK P)) (.string (scT P)) (.slice none 0 0) (.slice none 0 0) := by
  rintro P (rfl | rfl | ⟨t, rfl⟩)
  ·exact nd_nul S w
  ·exact nd_nul S w
  ·have := nd_txt S w (ba t)
   rw [ba_data] at this
   exact this
 refine key _ ?_
 unfold sclS
 split
 ·exact .inr (.inl rfl)
 ·split
  ·cases scnP l with
   | none => exact .inl rfl
   | some p => exact .inr (.inr ⟨_, rfl⟩)
  ·by_cases hb : (if row then rowB l else plainB l) = true
   ·rw [if_pos hb]; exact .inr (.inr ⟨_, rfl⟩)
   ·rw [if_neg hb]; exact .inl rfl
end Go.Proofs.YtecglpocmhkkiaaGreatDoor
namespace Go.Proofs.YtecglpocmhkkiaaGreatDoor
section
open Go.RowKit Go.Sort
open Nw N8 Q6 F9 B10
theorem RHyp_any (s : ByteArray) (b : Bool) (w : World) (hs : s.size ≤ 1000000) (h : hyp s.data.toList = b) :
  Calls Tryz.prog 13 #[.string s] w fun e w' => e = .returned (.bool b) ∧ w = w' := by
 obtain ⟨n, hn⟩ : ∃ n, s.size = n := ⟨_, rfl⟩
 have hlen : s.data.toList.length = n := (len_eq s).trans hn
 by_cases h0 : n = 0
 ·have e0 : s.data.toList = [] := List.length_eq_zero_iff.1 (hlen.trans h0)
  obtain rfl := bytes_of (l := #[]) e0
  have HB : Hid (false = b) := hid (by rw [← h]; rfl)
  clear h hlen e0 h0 hn hs
  go_enter Tryz.func13, Tryz.ntmps13
  go_wp2
  go_ret
  exact ⟨ret_bb HB.out, rfl⟩
 have hp : 0 < s.size := by omega
 have hpz : (0 : Int) < (n : Int) := by omega
 obtain ⟨c, hc⟩ : ∃ c, s[0]'hp = c := ⟨_, rfl⟩
 unfold hyp at h
 rw [headD_getD, getd s 0 hp, hc, hlen] at h
 cases h45 : isC 45 c with
 | false =>
  have m45 := (isC_beq 45 c 45 rfl).trans h45
  have HB : Hid (false = b) := hid (by rw [← h, show decide (c = 45) = false from h45]; rfl)
  clear h h45 hlen
  go_enter Tryz.func13, Tryz.ntmps13
  go_wp2
  go_ret
  exact ⟨ret_bb HB.out, rfl⟩
 | true =>
  have m45 := (isC_beq 45 c 45 rfl).trans h45
  rw [show decide (c = 45) = true from h45, Bool.true_and] at h
  by_cases h1 : n = 1
  ·have e1 : ((n : Int) == 1) = true := beq_iff_eq.2 (by omega)
   have HB : Hid (true = b) := hid (by rw [← h, decide_eq_true h1]; rfl)
   clear h h45 hlen h1
   go_enter Tryz.func13, Tryz.ntmps13
   go_wp2
   go_ret
   exact ⟨ret_bb HB.out, rfl⟩
  ·have e1 : ((n : Int) == 1) = false := beq_eq_false_iff_ne.2 (by omega)
   have hp1 : 1 < s.size := by omega
   have hp1z : (1 : Int) < (n : Int) := by omega
   obtain ⟨d, hd⟩ : ∃ d, s[1]'hp1 = d := ⟨_, rfl⟩
   have m32 := isC_beq 32 d 32 rfl
   rw [decide_eq_false h1, Bool.false_or, getd s 1 hp1, hd] at h
   rw [show isC 32 d = b from h] at m32
   clear h h45 hlen h1
   go_enter Tryz.func13, Tryz.ntmps13
   go_wp2
   go_ret
   exact ⟨rfl, rfl⟩
theorem RMrk_any (s : ByteArray) (k : Nat) (b : Bool) (w : World) (n : Nat) (hn : s.size = n) (hs : n ≤ 1000000) (hk : k ≤ n) (h : mrk s.data.toList k = b) :
  Calls Tryz.prog 28 #[.string s, .int .i64 (k : Int)] w fun e w' => e = .returned (.bool b) ∧ w = w' := by
 have hlen : s.data.toList.length = n := (len_eq s).trans hn
 unfold mrk at h
 rw [hlen] at h
 by_cases hlt : k < n
 ·have hks : k < s.size := by omega
  have hkz : (k : Int) < (n : Int) := by omega
  have wk : IntKind.i64.wrap ((k : Int) + 1) = (k : Int) + 1 := IntWalk.i64_in _ (by omega)
  obtain ⟨c, hc⟩ : ∃ c, s[k]'hks = c := ⟨_, rfl⟩
  rw [getd s k hks, hc] at h
  cases h58 : isC 58 c with
  | false =>
   have m58 := (isC_beq 58 c 58 rfl).trans h58
   have HB : Hid (false = b) := hid (by rw [← h, show decide (c = 58) = false from h58]; rfl)
   clear h h58 hlen
   go_enter Tryz.func28, Tryz.ntmps28
   go_wp2
   go_ret
   exact ⟨ret_bb HB.out, rfl⟩
  | true =>
   have m58 := (isC_beq 58 c 58 rfl).trans h58
   rw [show decide (c = 58) = true from h58, Bool.true_and] at h
   by_cases h1 : k + 1 = n
   ·have e1 : ((k : Int) + 1 == (n : Int)) = true := beq_iff_eq.2 (by omega)
    have HB : Hid (true = b) := hid (by rw [← h, decide_eq_true h1]; rfl)
    clear h h58 hlen h1
    go_enter Tryz.func28, Tryz.ntmps28
    go_wp2
    go_ret
    exact ⟨ret_bb HB.out, rfl⟩
   ·have e1 : ((k : Int) + 1 == (n : Int)) = false := beq_eq_false_iff_ne.2 (by omega)
    have hp1 : k + 1 < s.size := by omega
    have pj : 0 ≤ (k : Int) + 1 := by omega
    have tj : ((k : Int) + 1).toNat = k + 1 := by omega
    have lj : (k : Int) + 1 < (n : Int) := by omega
    obtain ⟨d, hd⟩ : ∃ d, s[k + 1]'hp1 = d := ⟨_, rfl⟩
    have m32 := isC_beq 32 d 32 rfl
    rw [decide_eq_false h1, Bool.false_or, getd s (k + 1) hp1, hd] at h
    rw [show isC 32 d = b from h] at m32
    clear h h58 hlen h1
    go_enter Tryz.func28, Tryz.ntmps28
    go_wp2
    go_ret
    exact ⟨rfl, rfl⟩
 ·have hkz : ¬ (k : Int) < (n : Int) := by omega
  have HB : Hid (false = b) := hid (by
   rw [← h, List.getD_eq_getElem?_getD, List.getElem?_eq_none (by rw [hlen]; omega)]
   rfl)
  clear h hlen
  go_enter Tryz.func28, Tryz.ntmps28
  go_wp2
  go_ret
  exact ⟨ret_bb HB.out, rfl⟩
theorem RBhd_any (s : ByteArray) (k : Nat) (w : World) (n : Nat) (hn : s.size = n) (hs : n ≤ 1000000) (hk : k < n) (q : ByteArray) (hq : bhd s.data.toList k = q.data.toList) :
  Calls Tryz.prog 29 #[.string s, .int .i64 (k : Int)] w fun e w' => e = .returned (.string q) ∧ w = w' := by
 obtain ⟨R, hR⟩ : ∃ R, k + 1 + blk (s.data.toList.drop (k + 1)) = R := ⟨_, rfl⟩
 unfold bhd at hq
 rw [hR] at hq
 have HR0 := hid hR
 have HQ := hid hq
 have HLEN : Hid (s.data.toList.length = n) := hid ((len_eq s).trans hn)
 have wk : IntKind.i64.wrap ((k : Int) + 1) = ((k + 1 : Nat) : Int) := IntWalk.i64_in _ (by omega)
 obtain ⟨k1, hk1⟩ : ∃ k1, k + 1 = k1 := ⟨_, rfl⟩
 rw [hk1] at HR0 wk
 have hk1n : k1 ≤ n := by omega
 clear hR hq hk1
 go_enter Tryz.func29, Tryz.ntmps29
 go_wp2
 go_loop [1] (fun si => ∃ j : Nat, j ≤ n ∧ si = .int .i64 (j : Int) ∧ Hid (j + blk (s.data.toList.drop j) = R)) (fun si => n - (intOf si).toNat)
 case atStart => exact ⟨k1, hk1n, rfl, HR0⟩
 case round =>
  clear HR0
  obtain ⟨j, hj, rfl, HR⟩ := hrel
  by_cases hlt : j < n
  ·have hjs : j < s.size := by omega
   have hjz : (j : Int) < (n : Int) := by omega
   obtain ⟨c, hc⟩ : ∃ c, s[j]'hjs = c := ⟨_, rfl⟩
   have hdr := drop_cons (l := s.data.toList) (k := j) (by rw [HLEN.out]; exact hlt)
   rw [getd s j hjs, hc] at hdr
   have HD := hid hdr
   clear hdr
   by_cases h32 : isC 32 c = true
   ·have m := (isC_beq 32 c 32 rfl).trans h32
    have HX : Hid (j + 1 + blk (s.data.toList.drop (j + 1)) = R) := hid (by
     have := HR.out
     rw [HD.out, blk_cons, if_pos (isC_iff.1 h32)] at this
     omega)
    clear h32
    go_wp2
    go_round
    case rel => exact ⟨j + 1, by omega, by go_num, HX⟩
    case measure => simp [intOf]; omega
   ·have h32 := Bool.eq_false_iff.2 h32
    have m := (isC_beq 32 c 32 rfl).trans h32
    have HX : Hid (j = R) := hid (by
     have := HR.out
     rw [HD.out, blk_no (of_decide_eq_false h32)] at this
     omega)
    have le1 : (j : Int) ≤ (n : Int) := by omega
    clear h32
    go_wp2
    go_ret
    exact ⟨ret_s9 (by rw [← HQ.out, ← HX.out, Lib.extract_data, ← HLEN.out, List.take_of_length_le (by rw [List.length_drop]; omega)]), rfl⟩
  ·obtain rfl : j = n := by omega
   have HX : Hid (j = R) := hid (by
    have := HR.out
    rw [List.drop_of_length_le (by rw [HLEN.out]; exact Nat.le_refl _)] at this
    exact this)
   go_wp2
   go_ret
   exact ⟨ret_s9 (by rw [← HQ.out, ← HX.out, List.drop_of_length_le (by rw [HLEN.out]; exact Nat.le_refl _)]; rfl), rfl⟩
end
end Go.Proofs.YtecglpocmhkkiaaGreatDoor
namespace Go.Proofs.YtecglpocmhkkiaaGreatDoor
namespace Q6
theorem takeWhile_le (p : UInt8 → Bool) (l : List UInt8) : (l.takeWhile p).length ≤ l.length := by
 induction l with
 | nil => exact Nat.le_refl _
 | cons b l ih =>
  rw [List.takeWhile_cons]
  split
  ·rw [List.length_cons, List.length_cons]; omega
  ·exact Nat.zero_le _
theorem indN_le (l : List UInt8) : indN l ≤ l.length := by unfold indN; exact takeWhile_le _ _
end Q6
end Go.Proofs.YtecglpocmhkkiaaGreatDoor
namespace Go.Proofs.YtecglpocmhkkiaaGreatDoor
section
open Go.RowKit Go.Sort
open Nw
theorem containsS_mem (l : List L8) (s : ByteArray) : Lib.containsS ((l.map ba).take l.length) s = decide (s.data.toList ∈ l) := by
 rw [List.take_of_length_le (by simp)]
 rw [Bool.eq_iff_iff, Lib.containsS_iff, decide_eq_true_eq]
 constructor
 ·intro h
  obtain ⟨x, hx, rfl⟩ := List.mem_map.1 h
  rwa [ba_data]
 ·intro h; exact List.mem_map.2 ⟨_, h, ba_of s⟩
theorem In_any (v : Value) (l : List L8) (s : ByteArray) (w : World) (h : Rd w v l) :
  Calls Tryz.prog 93 #[v, .string s] w fun e w' => e = .returned (.bool (decide (s.data.toList ∈ l))) ∧ w = w' := by
 rcases h.cases with ⟨a, cap, rfl, rfl, _⟩ | ⟨b, o, cap, rfl, h1, h2, h3, h4⟩
 ·have hcon := Tryz.slices_Contains_string_empty a cap s w
  go_enter Tryz.func93, Tryz.ntmps93
  go_wp2_with (go_at_call 114; refine hcon.mono ?_; rintro e w' ⟨rfl, rfl⟩)
  go_ret
  exact ⟨ret_bool (by simp), rfl⟩
 ·have hcon := Tryz.slices_Contains_string b o l.length cap (l.map ba) s w (by simp) (by unfold maxLen at h2; omega) (fun j hj => by rw [map_ba l j hj]; exact h4 j (by simpa using hj))
  rw [containsS_mem] at hcon
  clear h h4
  generalize decide (s.data.toList ∈ l) = r at hcon ⊢
  go_enter Tryz.func93, Tryz.ntmps93
  go_wp2_with (go_at_call 114; refine hcon.mono ?_; rintro e w' ⟨rfl, rfl⟩)
  go_ret
  exact ⟨rfl, rfl⟩
end
end Go.Proofs.YtecglpocmhkkiaaGreatDoor
namespace Go.Proofs.YtecglpocmhkkiaaGreatDoor
namespace B10
open Nw N8 Q6 F9
theorem one_small {row t : L8} {k : Nat} (h : oneL row = some (k, t)) : k + t.length ≤ row.length := by
 unfold oneL at h
 have h1 : indN row ≤ row.length := indN_le _
 cases hs : sayL (row.drop (indN row)) with
 | none => rw [hs] at h; cases h
 | some t2 =>
  rw [hs] at h
  have h : (if indN row = 0 ∧ marker t2 = true then none else some (indN row, t2)) = some (k, t) := h
  split at h
  ·cases h
  ·injection h with h
   injection h with h2 h3
   subst h2; subst h3
   unfold sayL at hs
   cases he : endAt (row.drop (indN row)) 0 with
   | none => rw [he] at hs; cases hs
   | some e =>
    rw [he] at hs
    injection hs with hs
    rw [← hs, List.length_take, List.length_drop]
    omega
theorem split_small : ∀ (N : Nat) (l : L8), l.length ≤ N → ∀ no acc ls n E, splitL no acc l = (ls, n, E) → ls.length ≤ acc.length + l.length ∧ ∀ x ∈ ls, x ∈ acc ∨ x.ind + x.text.length ≤ l.length := by
 intro N
 induction N with
 | zero =>
  intro l hl no acc ls n E h
  obtain rfl : l = [] := List.length_eq_zero_iff.1 (by omega)
  rw [splitL, dif_pos rfl] at h
  injection h with h1 h2
  subst h1
  exact ⟨by omega, fun x hx => .inl hx⟩
 | succ N ih =>
  intro l hl no acc ls n E h
  by_cases h0 : l = []
  ·subst h0
   rw [splitL, dif_pos rfl] at h
   injection h with h1 h2
   subst h1
   exact ⟨by omega, fun x hx => .inl hx⟩
  ·have hlp := List.length_pos_iff.2 h0
   cases h1 : oneL (l.take (rowN l)) with
   | none =>
    rw [splitL_bad h0 h1] at h
    injection h with h2 h3
    subst h2
    exact ⟨Nat.zero_le _, fun x hx => by cases hx⟩
   | some p =>
    obtain ⟨k, t⟩ := p
    rw [splitL_next h0 h1] at h
    have hd : (l.drop (rowN l + 1)).length = l.length - (rowN l + 1) := List.length_drop ..
    have ho := one_small h1
    have ht : (l.take (rowN l)).length ≤ l.length := by rw [List.length_take]; omega
    obtain ⟨a1, a2⟩ := ih (l.drop (rowN l + 1)) (by omega) _ _ ls n E h
    refine ⟨?_, fun x hx => ?_⟩
    ·split at a1
     ·omega
     ·rw [List.length_append, List.length_singleton] at a1; omega
    ·rcases a2 x hx with h2 | h2
     ·split at h2
      ·exact .inl h2
      ·rcases List.mem_append.1 h2 with h2 | h2
       ·exact .inl h2
       ·rw [List.mem_singleton] at h2
        subst h2
        exact .inr (Nat.le_trans ho ht)
     ·exact .inr (by omega)
theorem file_small {l : L8} {ls : List Ln} {n : Nat} {E : Int} (h : fileL l = (ls, n, E)) : ls.length ≤ 8192 ∧ ∀ x ∈ ls, x.ind + x.text.length ≤ 8192 := by
 unfold fileL at h
 split at h
 ·injection h with h1 h2
  subst h1
  exact ⟨Nat.zero_le _, fun x hx => by cases hx⟩
 ·obtain ⟨h1, h2⟩ := split_small _ l (Nat.le_refl _) 0 [] ls n E h
  exact ⟨by rw [List.length_nil] at h1; omega, fun x hx => by
   rcases h2 x hx with h3 | h3
   ·cases h3
   ·omega⟩
def parK (L : List Ln) : Res → Nd × Nat × Int
 | .bad no e => (nul, no, e)
 | .ok d k => match L.drop k with
  | y :: _ => (nul, y.no, 3)
  | [] => if okT 2000 d then (d, 0, 0) else (nul, 0, 9)
theorem par_err {l : L8} {ls : List Ln} {no : Nat} {E : Int} (h : fileL l = (ls, no, E)) (hE : E ≠ 0) : parB l = (nul, no, E) := by
 unfold parB
 rw [h]
 exact if_pos hE
theorem par_nil {l : L8} {no : Nat} (h : fileL l = ([], no, 0)) : parB l = (nul, 0, 0) := by
 unfold parB
 rw [h]
 rfl
theorem par_cons {l : L8} {x : Ln} {ls : List Ln} {no : Nat} (h : fileL l = (x :: ls, no, 0)) : parB l = parK (x :: ls) (blkB (x :: ls)) := by
 unfold parB
 rw [h]
 show (if (0 : Int) ≠ 0 then _ else _) = _
 rw [if_neg (by decide)]
 show (match blkB (x :: ls) with | .bad no e => _ | .ok d k => _) = _
 cases blkB (x :: ls) <;> rfl
theorem parK_end {L : List Ln} {d : Nd} {k : Nat} (h : L.length ≤ k) : parK L (.ok d k) = if okT 2000 d then (d, 0, 0) else (nul, 0, 9) := by
 unfold parK
 show (match L.drop k with | y :: _ => _ | [] => _) = _
 rw [List.drop_of_length_le h]
end B10
end Go.Proofs.YtecglpocmhkkiaaGreatDoor
namespace Go.Proofs.YtecglpocmhkkiaaGreatDoor
namespace B10
open Nw N8 Q6 F9
def exB : Nd := .mk 3 [] [[97]] [.mk 2 [] [] [txt [120], .mk 3 [] [[98], [99]] [txt [49], .mk 2 [] [] [txt [50]]]]]
theorem ex_file : fileL [97, 58, 10, 45, 32, 120, 10, 45, 32, 98, 58, 32, 49, 10, 32, 32, 99, 58, 32, 91, 50, 93, 10] = ([⟨1, 0, [97, 58]⟩, ⟨2, 0, [45, 32, 120]⟩, ⟨3, 0, [45, 32, 98, 58, 32, 49]⟩, ⟨4, 2, [99, 58, 32, 91, 50, 93]⟩], 0, 0) := by kernel_rfl
theorem ex_blk : blkB [⟨1, 0, [97, 58]⟩, ⟨2, 0, [45, 32, 120]⟩, ⟨3, 0, [45, 32, 98, 58, 32, 49]⟩, ⟨4, 2, [99, 58, 32, 91, 50, 93]⟩] = .ok exB 4 := by kernel_rfl
theorem ex_par10b : parB [97, 58, 32, 49, 10, 32, 32, 98, 58, 32, 50, 10] = (nul, 2, 3) := by kernel_rfl
end B10
end Go.Proofs.YtecglpocmhkkiaaGreatDoor
