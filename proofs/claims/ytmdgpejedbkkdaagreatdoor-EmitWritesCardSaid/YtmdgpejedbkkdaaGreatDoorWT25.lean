/- EmiInn, EmiFit, EmiFit2, ShelfK, EmiWrt -/
import Derived.Shelf.Lay
import Derived.Shelf.Strings.BuilderK
import Derived.Test.YtmdgpejedbkkdaaGreatDoorProg
import Derived.Test.YtmdgpejedbkkdaaGreatDoorWT24
set_option linter.unusedVariables false
set_option linter.unusedSimpArgs false
set_option maxRecDepth 100000
set_option maxHeartbeats 16000000
open Go.Lib (hid)
namespace Go.Proofs.YtmdgpejedbkkdaaGreatDoor
section
open Go.RowKit Go.Sort
open Nw N8 Q6 F9 B10 E11
theorem seqLines_any (k : Int) (s : ByteArray) (a : Option Addr) (n c : Nat) (A : Option Addr) (m q : Nat) (w : World) :
  Calls Tryz.prog 58 #[.agg #[.int .i64 k, .string s, .slice a n c, .slice A m q]] w fun e w' => e = .returned (.func (.func 81) #[] #[.pointer (some ⟨w.heap.size, 0, none⟩)]) ∧ w' = w.alloc (.cells #[.int .i64 k, .string s, .slice a n c, .slice A m q] 25) := by
 go_enter Tryz.func58, Tryz.ntmps58
 go_wp2
 go_ret
 exact ⟨rfl, rfl⟩
theorem mapLines_any (k : Int) (s : ByteArray) (a : Option Addr) (n c : Nat) (A : Option Addr) (m q : Nat) (w : World) :
  Calls Tryz.prog 59 #[.agg #[.int .i64 k, .string s, .slice a n c, .slice A m q]] w fun e w' => e = .returned (.func (.func 82) #[] #[.pointer (some ⟨w.heap.size, 0, none⟩)]) ∧ w' = w.alloc (.cells #[.int .i64 k, .string s, .slice a n c, .slice A m q] 25) := by
 go_enter Tryz.func59, Tryz.ntmps59
 go_wp2
 go_ret
 exact ⟨rfl, rfl⟩
def NK (n0 : Nat) (w : World) (d : Nd) (c0 c1 c2 c3 : Value) (W : World) : Prop :=
 Below w.heap.size w W ∧ Row4 W w.heap.size 25 c0 c1 c2 c3 ∧ NdC (· < n0) W d c0 c1 c2 c3
theorem NK.go {n0 : Nat} {w : World} {d : Nd} {c0 c1 c2 c3 : Value} {W W' : World} (h : NK n0 w d c0 c1 c2 c3 W) (hn : n0 ≤ w.heap.size) (hb : Below W.heap.size W W') : NK n0 w d c0 c1 c2 c3 W' :=
 ⟨h.1.trans (hb.mono h.1.size), below_heap hb h.2.1, NdC.keep (fun b hlt => ⟨hlt, hb.block b (by have := h.1.size; omega)⟩) _ h.2.2⟩
theorem NK.start {n0 : Nat} {w : World} {d : Nd} {c0 c1 c2 c3 : Value} (hn : n0 ≤ w.heap.size) (hd : NdC (· < n0) w d c0 c1 c2 c3) : NK n0 w d c0 c1 c2 c3 (w.alloc (.cells #[c0, c1, c2, c3] 25)) :=
 ⟨below_alloc w _, Row4.make w _ _ _ _ _, NdC.keep (fun b hlt => ⟨hlt, (below_alloc w _).block b (by omega)⟩) _ hd⟩
theorem NK.nd {n0 : Nat} {w : World} {d : Nd} {c0 c1 c2 c3 : Value} {W : World} (h : NK n0 w d c0 c1 c2 c3 W) (hn : n0 ≤ w.heap.size) : NdW W d c0 c1 c2 c3 :=
 NdC.keep (fun b hlt => ⟨by have := h.1.size; omega, rfl⟩) _ h.2.2
theorem fine_keys {t : L8} {ks : List L8} {ds : List Nd} (h : N8.Fine (.mk 3 t ks ds)) : ks.length = ds.length := by
 cases h with
 | mk h0 h3 hf hk hd => exact (hk rfl).1
theorem all_kids {M : Nat} {k : Int} {t : L8} {ks : List L8} {ds : List Nd} (h : allT M (.mk k t ks ds)) : (∀ x ∈ ks, x.length ≤ M) ∧ ∀ d ∈ ds, allT M d := by
 rw [allT] at h
 exact ⟨h.2.1, allL_iff.1 h.2.2⟩
theorem inner_any : ∀ N : Nat, N ≤ 1000000 → InnerOf N
 | 0, _ => by intro d hc; have := cntT_pos d; omega
 | N + 1, hN => by
  have ih := inner_any N (by omega)
  intro d hc hf ha hlim n0 c0 c1 c2 c3 w hn hd
  obtain ⟨k1, s1, a1, n1, q1, A1, m1, r1, rfl, rfl, rfl, rfl⟩ := hd.cellsOk
  have HK := hid (NK.start hn hd)
  have HS := hid (fun b hb W hW => isShort_any d hf b hb (.int .i64 k1) (.string s1) (.slice a1 n1 q1) (.slice A1 m1 r1) W hW)
  obtain ⟨sh, hsh⟩ : ∃ sh, shrt d = sh := ⟨_, rfl⟩
  have HS1 := hid (fun W hW => HS.out sh hsh W hW)
  obtain ⟨x0, x1, x2, x3⟩ := HK.out.2.1.cells
  clear HS
  cases sh with
  | true =>
   rw [lnT_short hsh] at hlim ⊢
   obtain ⟨Z, hZ⟩ : ∃ Z, ba (scal d) = Z := ⟨_, rfl⟩
   have hZl : Z.data.toList = scal d := by rw [← hZ, ba_data]
   have HZ := hid (fun W hW => shortForm_any d hf (text_all ha) Z hZl.symm (.int .i64 k1) (.string s1) (.slice a1 n1 q1) (.slice A1 m1 r1) W hW)
   have HO := hid (fun W => oneLine_any n0 Z W)
   rw [← hZl]
   clear hlim hc ha hsh hZ hZl hf hd ih
   go_enter Tryz.func38, Tryz.ntmps38
   go_wp2_with fail
   generalize w.alloc (.cells #[.int .i64 k1, .string s1, .slice a1 n1 q1, .slice A1 m1 r1] 25) = W1 at *
   refine (HS1.out _ (HK.out.nd hn)).mono ?_
   rintro e W2 ⟨rfl, hb2⟩
   have HK2 := hid (HK.out.go hn hb2)
   clear x0 x1 x2 x3 hb2
   obtain ⟨x0, x1, x2, x3⟩ := HK2.out.2.1.cells
   go_wp2_with fail
   refine (HZ.out _ (HK2.out.nd hn)).mono ?_
   rintro e W3 ⟨rfl, hb3⟩
   have HK3 := hid (HK2.out.go hn hb3)
   clear x0 x1 x2 x3 hb3
   go_wp2_with fail
   refine (HO.out _).mono ?_
   rintro e W4 ⟨v, rfl, hb4, hseq⟩
   have HR := hid (And.intro (HK3.out.go hn hb4).1 (hseq.lower HK3.out.1.size))
   clear hb4 hseq
   go_wp2
   go_ret
   exact ⟨_, rfl, HR.out.1, HR.out.2⟩
  | false =>
   obtain ⟨k, t, ks, ds⟩ := d
   obtain ⟨⟨h0, h3⟩, -, -, -, hfd⟩ := fine_in hf
   obtain ⟨hak, had⟩ := all_kids ha
   rw [lnT_long hsh] at hlim ⊢
   have hk2 : ¬ k < 2 := by
    unfold shrt at hsh
    rw [Bool.or_eq_false_iff] at hsh
    exact of_decide_eq_false hsh.1
   have hcN : cntL ds ≤ N := by rw [cntT] at hc; omega
   have hlen : ds.length ≤ 1000000 := by have := cntL_len ds; omega
   have hcn : ∀ d ∈ ds, cntT d ≤ N := fun d h => Nat.le_trans (cntL_in h) hcN
   have hkk : k1 = k := by
    rw [NdC] at hd
    have := hd.1
    injection this
   subst hkk
   by_cases h2 : k1 = 2
   ·subst h2
    rw [if_pos rfl] at hlim ⊢
    have HIT := hid (fun W b (hb1 : w.heap.size ≤ b) hb hnd => seq_iter N ih n0 w.heap.size b 2 t ks ds hcn hfd had hlen hlim (.int .i64 2) (.string s1) (.slice a1 n1 q1) (.slice A1 m1 r1) W hb1 hn hb hnd)
    have HL := hid (fun W => seqLines_any 2 s1 a1 n1 q1 A1 m1 r1 W)
    clear hlim hc ha hsh hf hd ih hfd had hak hcn hlen hcN h0 h3 hk2
    go_enter Tryz.func38, Tryz.ntmps38
    go_wp2_with fail
    generalize w.alloc (.cells #[.int .i64 2, .string s1, .slice a1 n1 q1, .slice A1 m1 r1] 25) = W1 at *
    refine (HS1.out _ (HK.out.nd hn)).mono ?_
    rintro e W2 ⟨rfl, hb2⟩
    have HK2 := hid (HK.out.go hn hb2)
    clear x0 x1 x2 x3 hb2
    obtain ⟨x0, x1, x2, x3⟩ := HK2.out.2.1.cells
    go_wp2_with fail
    refine (HL.out _).mono ?_
    rintro e W3 ⟨rfl, rfl⟩
    have HK3 := hid (HK2.out.go hn (below_alloc W2 (.cells #[.int .i64 2, .string s1, .slice a1 n1 q1, .slice A1 m1 r1] 25)))
    have HR := hid (HIT.out _ W2.heap.size HK2.out.1.size (Row4.make W2 25 (.int .i64 2) (.string s1) (.slice a1 n1 q1) (.slice A1 m1 r1)) HK3.out.2.2)
    clear x0 x1 x2 x3
    generalize W2.alloc (.cells #[.int .i64 2, .string s1, .slice a1 n1 q1, .slice A1 m1 r1] 25) = W3 at HK3 HR ⊢
    go_wp2
    go_ret
    exact ⟨_, rfl, HK3.out.1, _, _, rfl, enters_of Tryz.func81 (by kernel_rfl) rfl, HR.out⟩
   ·have h33 : k1 = 3 := by omega
    subst h33
    rw [if_neg (by decide)] at hlim ⊢
    have HIT := hid (fun W b (hb1 : w.heap.size ≤ b) hb hnd => map_iter N ih n0 w.heap.size b 3 t ks ds (fine_keys hf) hcn hfd had hak hlen hlim (.int .i64 3) (.string s1) (.slice a1 n1 q1) (.slice A1 m1 r1) W hb1 hn hb hnd)
    have HL := hid (fun W => mapLines_any 3 s1 a1 n1 q1 A1 m1 r1 W)
    clear hlim hc ha hsh hf hd ih hfd had hak hcn hlen hcN h0 h3 hk2 h2
    go_enter Tryz.func38, Tryz.ntmps38
    go_wp2_with fail
    generalize w.alloc (.cells #[.int .i64 3, .string s1, .slice a1 n1 q1, .slice A1 m1 r1] 25) = W1 at *
    refine (HS1.out _ (HK.out.nd hn)).mono ?_
    rintro e W2 ⟨rfl, hb2⟩
    have HK2 := hid (HK.out.go hn hb2)
    clear x0 x1 x2 x3 hb2
    obtain ⟨x0, x1, x2, x3⟩ := HK2.out.2.1.cells
    go_wp2_with fail
    refine (HL.out _).mono ?_
    rintro e W3 ⟨rfl, rfl⟩
    have HK3 := hid (HK2.out.go hn (below_alloc W2 (.cells #[.int .i64 3, .string s1, .slice a1 n1 q1, .slice A1 m1 r1] 25)))
    have HR := hid (HIT.out _ W2.heap.size HK2.out.1.size (Row4.make W2 25 (.int .i64 3) (.string s1) (.slice a1 n1 q1) (.slice A1 m1 r1)) HK3.out.2.2)
    clear x0 x1 x2 x3
    generalize W2.alloc (.cells #[.int .i64 3, .string s1, .slice a1 n1 q1, .slice A1 m1 r1] 25) = W3 at HK3 HR ⊢
    go_wp2
    go_ret
    exact ⟨_, rfl, HK3.out.1, _, _, rfl, enters_of Tryz.func82 (by kernel_rfl) rfl, HR.out⟩
end
section
open Go.RowKit Go.Sort
open Nw N8 Q6 F9 B10 E11
structure But (r : Nat) (w w' : World) : Prop where
 os : w'.os = w.os
 tape : w'.tape = w.tape
 output : w'.output = w.output
 size : w.heap.size ≤ w'.heap.size
 block : ∀ k, k < w.heap.size → k ≠ r → w'.heap[k]? = w.heap[k]?
theorem But.refl (r : Nat) (w : World) : But r w w := ⟨rfl, rfl, rfl, Nat.le_refl _, fun _ _ _ => rfl⟩
theorem But.trans {r : Nat} {a b c : World} (h : But r a b) (k : But r b c) : But r a c :=
 ⟨k.os.trans h.os, k.tape.trans h.tape, k.output.trans h.output, Nat.le_trans h.size k.size, fun i hi hr => (k.block i (Nat.lt_of_lt_of_le hi h.size) hr).trans (h.block i hi hr)⟩
theorem But.of {r : Nat} {a b : World} (h : Below a.heap.size a b) : But r a b := ⟨h.os, h.tape, h.output, h.size, fun k hk _ => h.block k hk⟩
theorem But.set (r : Nat) (w : World) (v : Value) : But r w (w.setCell ⟨r, 0, none⟩ v) := ⟨rfl, rfl, rfl, by simp [World.setCell], fun k _ hr => Below.heap_setCell _ _ _ _ hr⟩
theorem But.heap {r : Nat} {w w' : World} (h : But r w w') {k : Nat} {o : Obj} (ho : w.heap[k]? = some o) (hr : k ≠ r) : w'.heap[k]? = some o := (h.block k (lt_of_heap ho) hr).trans ho
theorem But.below {r n : Nat} {w w' : World} (h : But r w w') (hn : n ≤ r) (hs : n ≤ w.heap.size) : Below n w w' := ⟨h.os, h.tape, h.output, h.size, fun k hk => h.block k (by omega) (by omega)⟩
def Rm11 (r : Nat) (m : Int) (w : World) : Prop := w.heap[r]? = some (.cells #[.int .i64 m] 3 (0, 0))
theorem Rm11.on {r : Nat} {m : Int} {w w' : World} (h : Rm11 r m w) (hb : Below w.heap.size w w') : Rm11 r m w' := below_heap hb h
def FitsOf (N : Nat) : Prop := ∀ (d : Nd), cntT d ≤ N → N8.Fine d → ∀ (nest m m' : Int) (r n0 : Nat) (c0 c1 c2 c3 : Value) (w : World), (depT d : Int) ≤ nest → nest ≤ 1000 → (cntT d : Int) ≤ m → m ≤ 100000 → m' = m - cntT d → n0 ≤ r → NdC (· < n0) w d c0 c1 c2 c3 → Rm11 r m w →
  Calls Tryz.prog 54 #[.agg #[c0, c1, c2, c3], .int .i64 nest, .pointer (some ⟨r, 0, none⟩)] w fun e w' => e = .returned (.bool true) ∧ Rm11 r m' w' ∧ But r w w'
theorem fits1_any (N : Nat) (ih : FitsOf N) (d : Nd) (hc : cntT d ≤ N) (hf : N8.Fine d) (nest m m' : Int) (r n0 bn bp : Nat) (c0 c1 c2 c3 : Value) (w : World) (hdp : (depT d : Int) + 1 ≤ nest) (hn : nest ≤ 1000) (hcm : (cntT d : Int) ≤ m) (hm : m ≤ 100000) (hm' : m' = m - cntT d) (hr : n0 ≤ r)
  (hd : NdC (· < n0) w d c0 c1 c2 c3) (hrm : Rm11 r m w) (hbn : w.cell? ⟨bn, 0, none⟩ = some (.int .i64 nest)) (hbp : w.cell? ⟨bp, 0, none⟩ = some (.pointer (some ⟨r, 0, none⟩))) :
  Calls Tryz.prog 80 #[.agg #[c0, c1, c2, c3], .pointer (some ⟨bn, 0, none⟩), .pointer (some ⟨bp, 0, none⟩)] w fun e w' => e = .returned (.bool false) ∧ Rm11 r m' w' ∧ But r w w' := by
 obtain ⟨k1, s1, a1, n1, q1, A1, m1, r1, rfl, rfl, rfl, rfl⟩ := hd.cellsOk
 have hlr := lt_of_heap hrm
 have hal := below_alloc w (.cells #[.int .i64 k1, .string s1, .slice a1 n1 q1, .slice A1 m1 r1] 25)
 have HAL := hid hal
 obtain ⟨nn, hnn⟩ : ∃ nn, nest - 1 = nn := ⟨_, rfl⟩
 have hw : IntKind.i64.wrap (nest - 1) = nn := by rw [hnn]; exact wrap_small _ (by omega) (by omega)
 have HF := hid (ih d hc hf nn m m' r n0 (.int .i64 k1) (.string s1) (.slice a1 n1 q1) (.slice A1 m1 r1) _ (by omega) (by omega) hcm hm hm' hr (NdC.keep (fun b h => ⟨h, hal.block b (by omega)⟩) _ hd) (hrm.on hal))
 obtain ⟨x0, x1, x2, x3⟩ := (Row4.make w 25 (.int .i64 k1) (.string s1) (.slice a1 n1 q1) (.slice A1 m1 r1)).cells
 have y0 := (hal.cell (p := ⟨bn, 0, none⟩) (World.block_lt_of_cell? _ _ hbn)).trans hbn
 have y1 := (hal.cell (p := ⟨bp, 0, none⟩) (World.block_lt_of_cell? _ _ hbp)).trans hbp
 clear hd hrm hbn hbp hnn hal hc hf ih hcm hm hm' hr hlr hdp hn
 go_enter Tryz.func80, Tryz.ntmps80
 go_wp2_with fail
 refine HF.out.mono ?_
 rintro e w2 ⟨rfl, hr2, hb2⟩
 have HR := hid (And.intro hr2 ((But.of HAL.out).trans hb2))
 clear hr2 hb2 x0 x1 x2 x3 y0 y1
 go_wp2
 go_ret
 exact ⟨rfl, HR.out.1, HR.out.2⟩
theorem cntL_take : ∀ (ds : List Nd) (i : Nat) (hi : i < ds.length), cntL (ds.take (i + 1)) = cntL (ds.take i) + cntT (ds[i]'hi) ∧ cntL (ds.take (i + 1)) ≤ cntL ds
 | d :: ds, 0, _ => by
  show cntL [d] = cntL [] + cntT d ∧ cntL [d] ≤ cntL (d :: ds)
  simp only [cntL]
  omega
 | d :: ds, i + 1, hi => by
  obtain ⟨h1, h2⟩ := cntL_take ds i (Nat.lt_of_succ_lt_succ hi)
  show cntL (d :: ds.take (i + 1)) = cntL (d :: ds.take i) + cntT (ds[i]'_) ∧ cntL (d :: ds.take (i + 1)) ≤ cntL (d :: ds)
  simp only [cntL]
  omega
theorem fitsIndex_any (N : Nat) (ih : FitsOf N) (k : Int) (t : L8) (ks : List L8) (ds : List Nd) (hN : cntL ds ≤ N) (hf : ∀ d ∈ ds, N8.Fine d) (nest m m' : Int) (r n0 bn bp : Nat) (c0 c1 c2 : Value) (A : Option Addr) (n cap : Nat) (w : World) (hn : ds.length = n) (hcap : n ≤ cap) (hcapm : cap ≤ maxLen) (hdp : (depL ds : Int) + 1 ≤ nest) (hne : nest ≤ 1000) (hcm : (cntL ds : Int) ≤ m) (hm : m ≤ 100000) (hm' : m' = m - cntL ds) (hr : n0 ≤ r) (hrn : bn ≠ r) (hrp : bp ≠ r)
  (hd : NdC (· < n0) w (.mk k t ks ds) c0 c1 c2 (.slice A n cap)) (hrm : Rm11 r m w) (hbn : w.heap[bn]? = some (.cells #[.int .i64 nest] 3 (0, 0))) (hbp : w.heap[bp]? = some (.cells #[.pointer (some ⟨r, 0, none⟩)] 81 (0, 0))) :
  Calls Tryz.prog 114 #[.slice A n cap, .func (.func 80) #[] #[.pointer (some ⟨bn, 0, none⟩), .pointer (some ⟨bp, 0, none⟩)]] w fun e w' => e = .returned (.int .i64 (-1)) ∧ Rm11 r m' w' ∧ But r w w' := by
 have eg : ∀ args w, (callFunc 80 args).run Tryz.prog w = .ok (.enter 80 args) w := enters_of Tryz.func80 (by kernel_rfl) rfl
 have hlr := lt_of_heap hrm
 have HD := hid hd
 have HN := hid hn
 have HC := hid (And.intro hN hf)
 have HDP := hid hdp
 have HCM := hid hcm
 have HM' := hid hm'
 have HBN := hid hbn
 have HBP := hid hbp
 have hnl := cntL_len ds
 have HNB : Hid (n ≤ 100000) := hid (by omega)
 unfold maxLen at hcapm
 have HR0 : Hid (Rm11 r (m - (cntL (ds.take 0) : Nat)) w ∧ But r w w) := hid ⟨by rw [List.take_zero]; simpa [cntL] using hrm, But.refl _ _⟩
 have HLR := hid hlr
 clear hd hn hN hf hdp hcm hm' hbn hbp hrm hnl hlr
 go_enter Tryz.func114, Tryz.ntmps114
 go_wp2
 go_loopw [5, 8] (fun s5 si wr => ∃ (i : Nat), i ≤ n ∧ si = .int .i64 (i : Int) ∧ Hid (Rm11 r (m - (cntL (ds.take i) : Nat)) wr ∧ But r w wr)) (fun _ si _ => n - (intOf si).toNat)
 case atStart => exact ⟨0, Nat.zero_le _, rfl, HR0⟩
 case round =>
  clear HR0
  obtain ⟨i, hi, rfl, HRI⟩ := hrel
  by_cases hin : i < n
  ·have hil : i < ds.length := by rw [HN.out]; exact hin
   have hiz : (i : Int) < (n : Int) := by omega
   have hn0w : n0 ≤ w.heap.size := by have := HLR.out; omega
   have hbl := HRI.out.2.below hr hn0w
   obtain ⟨b, o, E0, E1, E2, E3, rfl, hb, y0, y1, y2, y3, hnd⟩ := (NdC.keep (T := (· < n0)) (fun b h => ⟨h, hbl.block b h⟩) _ HD.out).kid i hil
   obtain ⟨k1, s1, a1, n1, q1, A1, m1, r1, rfl, rfl, rfl, rfl⟩ := hnd.cellsOk
   obtain ⟨d, hdj⟩ : ∃ d, ds[i]'hil = d := ⟨_, rfl⟩
   have hmem : d ∈ ds := by rw [← hdj]; exact List.getElem_mem hil
   obtain ⟨ht1, ht2⟩ := cntL_take ds i hil
   rw [hdj] at hnd ht1
   have hdd := depL_in hmem
   have HR := hid (fits1_any N ih d (Nat.le_trans (cntL_in hmem) HC.out.1) (HC.out.2 d hmem) nest (m - (cntL (ds.take i) : Nat)) (m - (cntL (ds.take (i + 1)) : Nat)) r n0 bn bp (.int .i64 k1) (.string s1) (.slice a1 n1 q1) (.slice A1 m1 r1) wr (by have := HDP.out; omega) hne (by have := HCM.out; omega) (by omega) (by omega) hr hnd HRI.out.1
    (cell_box (HRI.out.2.heap HBN.out hrn)) (cell_box (HRI.out.2.heap HBP.out hrp)))
   clear hnd ht1 ht2 hdd hmem hdj hbl
   go_wp2_with (go_at_fn 80; refine HR.out.mono ?_; rintro e w2 ⟨rfl, hr2, hb2⟩)
   have HRJ := hid (And.intro hr2 (HRI.out.2.trans hb2))
   clear hr2 hb2
   go_roundw
   case measure => simp [intOf]; omega
   case rel => exact ⟨i + 1, by omega, by go_num, HRJ⟩
  ·obtain rfl : i = n := by omega
   have HE := hid HRI.out
   go_wp2
   go_ret
   refine ⟨rfl, ?_, HRI.out.2⟩
   have := HRI.out.1
   rwa [List.take_of_length_le (by rw [HN.out]; exact Nat.le_refl _), ← HM'.out] at this
end
section
open Go.RowKit Go.Sort
open Nw N8 Q6 F9 B10 E11
theorem fitsContains_any (N : Nat) (ih : FitsOf N) (k : Int) (t : L8) (ks : List L8) (ds : List Nd) (hN : cntL ds ≤ N) (hf : ∀ d ∈ ds, N8.Fine d) (nest m m' : Int) (r n0 bn bp : Nat) (c0 c1 c2 : Value) (A : Option Addr) (n cap : Nat) (w : World) (hn : ds.length = n) (hcap : n ≤ cap) (hcapm : cap ≤ maxLen) (hdp : (depL ds : Int) + 1 ≤ nest) (hne : nest ≤ 1000) (hcm : (cntL ds : Int) ≤ m) (hm : m ≤ 100000) (hm' : m' = m - cntL ds) (hr : n0 ≤ r) (hrn : bn ≠ r) (hrp : bp ≠ r)
  (hd : NdC (· < n0) w (.mk k t ks ds) c0 c1 c2 (.slice A n cap)) (hrm : Rm11 r m w) (hbn : w.heap[bn]? = some (.cells #[.int .i64 nest] 3 (0, 0))) (hbp : w.heap[bp]? = some (.cells #[.pointer (some ⟨r, 0, none⟩)] 81 (0, 0))) :
  Calls Tryz.prog 79 #[.slice A n cap, .func (.func 80) #[] #[.pointer (some ⟨bn, 0, none⟩), .pointer (some ⟨bp, 0, none⟩)]] w fun e w' => e = .returned (.bool false) ∧ Rm11 r m' w' ∧ But r w w' := by
 have HI := hid (fitsIndex_any N ih k t ks ds hN hf nest m m' r n0 bn bp c0 c1 c2 A n cap w hn hcap hcapm hdp hne hcm hm hm' hr hrn hrp hd hrm hbn hbp)
 clear hn hcap hcapm hdp hne hcm hm hm' hr hrn hrp hd hrm hbn hbp hN hf ih
 go_enter Tryz.func79, Tryz.ntmps79
 go_wp2_with fail
 refine HI.out.mono ?_
 rintro e w2 ⟨rfl, hr2, hb2⟩
 have HR := hid (And.intro hr2 hb2)
 clear hr2 hb2
 go_wp2
 go_ret
 exact ⟨by first | rfl | simp, HR.out.1, HR.out.2⟩
theorem fit_boxes {w : World} {c0 c1 c2 c3 v x : Value} : ∃ W, ((w.alloc (.cells #[c0, c1, c2, c3] 25)).alloc (.cells #[v] 3)).alloc (.cells #[x] 81) = W ∧ Below w.heap.size w W ∧ Row4 W w.heap.size 25 c0 c1 c2 c3 ∧ W.heap[w.heap.size + 1]? = some (.cells #[v] 3 (0, 0)) ∧ W.heap[w.heap.size + 2]? = some (.cells #[x] 81 (0, 0)) := by
 have h1 := below_alloc w (.cells #[c0, c1, c2, c3] 25)
 have h2 := below_alloc (w.alloc (.cells #[c0, c1, c2, c3] 25)) (.cells #[v] 3)
 have h3 := below_alloc ((w.alloc (.cells #[c0, c1, c2, c3] 25)).alloc (.cells #[v] 3)) (.cells #[x] 81)
 have n2 := World.alloc_heap_new (w.alloc (.cells #[c0, c1, c2, c3] 25)) (.cells #[v] 3)
 have n3 := World.alloc_heap_new ((w.alloc (.cells #[c0, c1, c2, c3] 25)).alloc (.cells #[v] 3)) (.cells #[x] 81)
 rw [World.size_alloc] at n2
 rw [World.size_alloc, World.size_alloc] at n3
 exact ⟨_, rfl, h1.trans ((h2.mono h1.size).trans (h3.mono (Nat.le_trans h1.size h2.size))), below_heap h3 (below_heap h2 (Row4.make w _ _ _ _ _)), below_heap h3 n2, n3⟩
theorem fits_any : ∀ N : Nat, FitsOf N
 | 0 => by intro d hc; have := cntT_pos d; omega
 | N + 1 => by
  have ih := fits_any N
  intro d hc hf nest m m' r n0 c0 c1 c2 c3 w hdp hne hcm hm hm' hr hd hrm
  obtain ⟨k1, s1, a1, n1, q1, A1, p1, r1, rfl, rfl, rfl, rfl⟩ := hd.cellsOk
  obtain ⟨k, t, ks, ds⟩ := d
  obtain ⟨⟨h0, h3⟩, -, -, -, hfd⟩ := fine_in hf
  have hlr := lt_of_heap hrm
  obtain ⟨hkk, hkl, hdl, hcap, hcapm⟩ : k1 = k ∧ n1 = ks.length ∧ p1 = ds.length ∧ p1 ≤ r1 ∧ r1 ≤ maxLen := by
   have h := hd
   rw [NdC] at h
   obtain ⟨h0, -, ⟨a, c, h4, -⟩, A, cap, h5, h6, h7, -⟩ := h
   injection h0 with _ h0
   injection h4 with _ h4 _
   injection h5 with _ h5 h8
   subst h8
   exact ⟨h0, h4, h5, by rw [h5]; exact h6, h7⟩
  subst hkk
  rw [cntT] at hc hcm hm'
  rw [depT] at hdp
  obtain ⟨W1, hW1, hb1, r4, e1, e2⟩ := fit_boxes (w := w) (c0 := .int .i64 k1) (c1 := .string s1) (c2 := .slice a1 n1 q1) (c3 := .slice A1 p1 r1) (v := .int .i64 nest) (x := .pointer (some ⟨r, 0, none⟩))
  obtain ⟨mm, hmm⟩ : ∃ mm, m - 1 = mm := ⟨_, rfl⟩
  have hw : IntKind.i64.wrap (m - 1) = mm := by rw [hmm]; exact wrap_small _ (by omega) (by omega)
  have hrm1 : Rm11 r m W1 := hrm.on hb1
  have b0 := But.set r W1 (.int .i64 mm)
  have hrm2 : Rm11 r mm (W1.setCell ⟨r, 0, none⟩ (.int .i64 mm)) := Go.Boxed.set _ hrm1
  have r42 := b0.heap r4 (by omega)
  have e12 := b0.heap e1 (by omega)
  have e22 := b0.heap e2 (by omega)
  have hbut : But r w (W1.setCell ⟨r, 0, none⟩ (.int .i64 mm)) := (But.of hb1).trans b0
  have hn0w : n0 ≤ w.heap.size := by omega
  have hd2 : NdC (· < n0) (W1.setCell ⟨r, 0, none⟩ (.int .i64 mm)) (.mk k1 t ks ds) (.int .i64 k1) (.string s1) (.slice a1 n1 q1) (.slice A1 p1 r1) := NdC.keep (fun b h => ⟨h, (hbut.below hr hn0w).block b h⟩) _ hd
  have HCF := hid (fitsContains_any N ih k1 t ks ds (by omega) hfd nest mm m' r n0 (w.heap.size + 1) (w.heap.size + 2) (.int .i64 k1) (.string s1) (.slice a1 n1 q1) A1 p1 r1 _ hdl.symm hcap hcapm (by omega) hne (by omega) (by omega) (by omega) hr (by omega) (by omega) hd2 hrm2 e12 e22)
  obtain ⟨x0, x1, x2, x3⟩ := (show Row4 _ w.heap.size 25 (.int .i64 k1) (.string s1) (.slice a1 n1 q1) (.slice A1 p1 r1) from r42).cells
  have y1 := cell_box e12
  have y2 := cell_box e22
  have y3 := cell_box hrm2
  have z2 := cell_box e2
  have z3 := cell_box hrm1
  have f3 := frozen_box hrm1
  have HBUT := hid hbut
  have g1 : (nest == 0) = false := beq_eq_false_iff_ne.2 (by omega)
  have g2 : decide (mm < 0) = false := decide_eq_false (by omega)
  have hkeys : k1 = 3 → n1 = p1 := fun e => by subst e; rw [hkl, hdl]; exact fine_keys hf
  have hk4 : k1 = 3 ∨ ¬ k1 = 3 := by omega
  clear hd hf hd2 hrm hrm1 hrm2 r4 r42 e1 e2 e12 e22 b0 hbut hb1 hmm hc hcm hm' hdp hne hm hr hlr hfd ih h0 h3 hkl hdl hcap hcapm hn0w
  rcases hk4 with rfl | hk3
  ·obtain rfl := hkeys rfl
   have g3 : ((n1 : Int) != (n1 : Int)) = false := by simp
   clear hkeys
   go_enter Tryz.func54, Tryz.ntmps54
   go_wp2_with fail
   refine HCF.out.mono ?_
   rintro e w2 ⟨rfl, hr2, hb2⟩
   have HR := hid (And.intro hr2 (HBUT.out.trans hb2))
   clear hr2 hb2 x0 x1 x2 x3 y1 y2 y3
   go_wp2
   go_ret
   exact ⟨rfl, HR.out.1, HR.out.2⟩
  ·have g3 : (k1 == 3) = false := beq_eq_false_iff_ne.2 hk3
   clear hkeys
   go_enter Tryz.func54, Tryz.ntmps54
   go_wp2_with fail
   refine HCF.out.mono ?_
   rintro e w2 ⟨rfl, hr2, hb2⟩
   have HR := hid (And.intro hr2 (HBUT.out.trans hb2))
   clear hr2 hb2 x0 x1 x2 x3 y1 y2 y3
   go_wp2
   go_ret
   exact ⟨rfl, HR.out.1, HR.out.2⟩
end
end Go.Proofs.YtmdgpejedbkkdaaGreatDoor
namespace Go.Proofs
open Go.Shelf Go.RowKit
def Tryz.lays167k_ren : Go.Shelf.Ren := ⟨fun | 167 => 19 | 240 => 39 | 276 => 60 | n => n, fun | 0 => 0 | 4 => 4 | 5 => 5 | 9 => 9 | 20 => 20 | 37 => 40 | 70 => 39 | 72 => 42 | 75 => 47 | 80 => 51 | 164 => 82 | n => n, fun | n => n⟩
theorem Tryz.lays167k : Go.Proofs.Lays.n167 Tryz.prog Tryz.lays167k_ren := {
 mixed := by kernel_rfl
 f167 := Tryz.func19.trans (congrArg some (by kernel_rfl))
 f240 := Tryz.func39.trans (congrArg some (by kernel_rfl))
 f276 := Tryz.func60.trans (congrArg some (by kernel_rfl))
 t0 := Tryz.underlying0
 a0 := Tryz.isAgg0
 z0 := Tryz.sizeOf0
 v0 := Tryz.zeroValue0
 t4 := Tryz.underlying4
 a4 := Tryz.isAgg4
 z4 := Tryz.sizeOf4
 v4 := Tryz.zeroValue4
 t5 := Tryz.underlying5
 a5 := Tryz.isAgg5
 z5 := Tryz.sizeOf5
 v5 := Tryz.zeroValue5
 t9 := Tryz.underlying9
 a9 := Tryz.isAgg9
 z9 := Tryz.sizeOf9
 v9 := Tryz.zeroValue9
 t20 := Tryz.underlying20
 a20 := Tryz.isAgg20
 z20 := Tryz.sizeOf20
 v20 := Tryz.zeroValue20
 t37 := Tryz.underlying40
 a37 := Tryz.isAgg40
 z37 := Tryz.sizeOf40
 v37 := Tryz.zeroValue40
 t70 := Tryz.underlying39
 a70 := Tryz.isAgg39
 z70 := Tryz.sizeOf39
 v70 := Tryz.zeroValue39
 t72 := Tryz.underlying42
 a72 := Tryz.isAgg42
 z72 := Tryz.sizeOf42
 v72 := Tryz.zeroValue42
 t75 := Tryz.underlying47
 a75 := Tryz.isAgg47
 z75 := Tryz.sizeOf47
 v75 := Tryz.zeroValue47
 t164 := Tryz.underlying82
 a164 := Tryz.isAgg82
 z164 := Tryz.sizeOf82
 v164 := Tryz.zeroValue82 }
def Tryz.lays166k_ren : Go.Shelf.Ren := ⟨fun | 166 => 18 | 240 => 39 | 276 => 60 | n => n, fun | 0 => 0 | 3 => 3 | 4 => 4 | 5 => 5 | 9 => 9 | 20 => 20 | 37 => 40 | 70 => 39 | 72 => 42 | 75 => 47 | 80 => 51 | 164 => 82 | n => n, fun | n => n⟩
theorem Tryz.lays166k : Go.Proofs.Lays.n166 Tryz.prog Tryz.lays166k_ren := {
 mixed := by kernel_rfl
 f166 := Tryz.func18.trans (congrArg some (by kernel_rfl))
 f240 := Tryz.func39.trans (congrArg some (by kernel_rfl))
 f276 := Tryz.func60.trans (congrArg some (by kernel_rfl))
 t0 := Tryz.underlying0
 a0 := Tryz.isAgg0
 z0 := Tryz.sizeOf0
 v0 := Tryz.zeroValue0
 t3 := Tryz.underlying3
 a3 := Tryz.isAgg3
 z3 := Tryz.sizeOf3
 v3 := Tryz.zeroValue3
 t4 := Tryz.underlying4
 a4 := Tryz.isAgg4
 z4 := Tryz.sizeOf4
 v4 := Tryz.zeroValue4
 t9 := Tryz.underlying9
 a9 := Tryz.isAgg9
 z9 := Tryz.sizeOf9
 v9 := Tryz.zeroValue9
 t20 := Tryz.underlying20
 a20 := Tryz.isAgg20
 z20 := Tryz.sizeOf20
 v20 := Tryz.zeroValue20
 t37 := Tryz.underlying40
 a37 := Tryz.isAgg40
 z37 := Tryz.sizeOf40
 v37 := Tryz.zeroValue40
 t70 := Tryz.underlying39
 a70 := Tryz.isAgg39
 z70 := Tryz.sizeOf39
 v70 := Tryz.zeroValue39
 t72 := Tryz.underlying42
 a72 := Tryz.isAgg42
 z72 := Tryz.sizeOf42
 v72 := Tryz.zeroValue42
 t75 := Tryz.underlying47
 a75 := Tryz.isAgg47
 z75 := Tryz.sizeOf47
 v75 := Tryz.zeroValue47
 t164 := Tryz.underlying82
 a164 := Tryz.isAgg82
 z164 := Tryz.sizeOf82
 v164 := Tryz.zeroValue82 }
def Tryz.lays169k_ren : Go.Shelf.Ren := ⟨fun | 169 => 20 | n => n, fun | 0 => 0 | 3 => 3 | 5 => 5 | 9 => 9 | 37 => 40 | 70 => 39 | 72 => 42 | 127 => 66 | n => n, fun | n => n⟩
theorem Tryz.lays169k : Go.Proofs.Lays.n169 Tryz.prog Tryz.lays169k_ren := {
 mixed := by kernel_rfl
 f169 := Tryz.func20.trans (congrArg some (by kernel_rfl))
 t0 := Tryz.underlying0
 a0 := Tryz.isAgg0
 z0 := Tryz.sizeOf0
 v0 := Tryz.zeroValue0
 t3 := Tryz.underlying3
 a3 := Tryz.isAgg3
 z3 := Tryz.sizeOf3
 v3 := Tryz.zeroValue3
 t9 := Tryz.underlying9
 a9 := Tryz.isAgg9
 z9 := Tryz.sizeOf9
 v9 := Tryz.zeroValue9
 t37 := Tryz.underlying40
 a37 := Tryz.isAgg40
 z37 := Tryz.sizeOf40
 v37 := Tryz.zeroValue40
 t70 := Tryz.underlying39
 a70 := Tryz.isAgg39
 z70 := Tryz.sizeOf39
 v70 := Tryz.zeroValue39
 t72 := Tryz.underlying42
 a72 := Tryz.isAgg42
 z72 := Tryz.sizeOf42
 v72 := Tryz.zeroValue42
 t127 := Tryz.underlying66
 a127 := Tryz.isAgg66
 z127 := Tryz.sizeOf66
 v127 := Tryz.zeroValue66 }
theorem Tryz.Builder_Extra167k : Builder.Extra Tryz.prog Tryz.lays167k_ren := {
 sizeBuilder := by kernel_rfl
 liesBuilder := by kernel_rfl
 t5 := Tryz.underlying5
 a5 := Tryz.isAgg5
 z5 := Tryz.sizeOf5
 v5 := Tryz.zeroValue5
 infoByte := by kernel_rfl
 cellsByte := by kernel_rfl
 sizeByte := by kernel_rfl
 neB5 := by decide }
theorem Tryz.Builder_Extra166k : Builder.Extra Tryz.prog Tryz.lays166k_ren := {
 sizeBuilder := by kernel_rfl
 liesBuilder := by kernel_rfl
 t5 := Tryz.underlying5
 a5 := Tryz.isAgg5
 z5 := Tryz.sizeOf5
 v5 := Tryz.zeroValue5
 infoByte := by kernel_rfl
 cellsByte := by kernel_rfl
 sizeByte := by kernel_rfl
 neB5 := by decide }
theorem Tryz.Builder_Extra169k : Builder.Extra Tryz.prog Tryz.lays169k_ren := {
 sizeBuilder := by kernel_rfl
 liesBuilder := by kernel_rfl
 t5 := Tryz.underlying5
 a5 := Tryz.isAgg5
 z5 := Tryz.sizeOf5
 v5 := Tryz.zeroValue5
 infoByte := by kernel_rfl
 cellsByte := by kernel_rfl
 sizeByte := by kernel_rfl
 neB5 := by decide }
theorem Tryz.Builder_WriteByte_k (B b : Nat) (bs : List Value) (c : Int) (w : World) (h : Lib.IsBuilderF 42 5 B b bs w) (hlen : bs.length + 1 ≤ 140737488355328) (hBw : B ≤ w.heap.size) :
  Calls Tryz.prog 19 #[.pointer (some ⟨b, 0, none⟩), .int .u8 c] w fun e w' => e = .returned .nilIface ∧ (Lib.BuilderAtF 42 5 B b (.pointer (some ⟨b, 0, none⟩)) (bs ++ [.int .u8 c]) w' ∧ Below B w w' ∧ Lib.OthersKept 5 (some b) w w') := Any.Builder_WriteByte_k Tryz.lays167k Tryz.Builder_Extra167k B b bs c w h hlen hBw
theorem Tryz.Builder_WriteString_k (B b : Nat) (bs : List Value) (s : ByteArray) (w : World) (h : Lib.IsBuilderF 42 5 B b bs w) (hlen : bs.length + s.size ≤ 140737488355328) (hBw : B ≤ w.heap.size) :
  Calls Tryz.prog 18 #[.pointer (some ⟨b, 0, none⟩), .string s] w fun e w' => e = .returned (.tuple #[.int .i64 s.size, .nilIface]) ∧ (Lib.BuilderAtF 42 5 B b (.pointer (some ⟨b, 0, none⟩)) (bs ++ Lib.strCells s) w' ∧ Below B w w' ∧ Lib.OthersKept 5 (some b) w w') := Any.Builder_WriteString_k Tryz.lays166k Tryz.Builder_Extra166k B b bs s w h hlen hBw
theorem Tryz.Builder_String_any_k (B b : Nat) (l : List UInt8) (w : World) (h : Lib.IsBuilderF 42 5 B b (Lib.byteCells l) w) (hBw : B ≤ w.heap.size) :
  Calls Tryz.prog 20 #[.pointer (some ⟨b, 0, none⟩)] w fun e w' => e = .returned (.string ⟨l.toArray⟩) ∧ (Lib.IsBuilderF 42 5 B b (Lib.byteCells l) w' ∧ Below B w w' ∧ Lib.OthersKept 5 (some b) w w') := Any.Builder_String_any_k Tryz.lays169k Tryz.Builder_Extra169k B b l w h hBw
end Go.Proofs
namespace Go.Proofs.YtmdgpejedbkkdaaGreatDoor
section
open Go.RowKit Go.Sort
open Nw N8 Q6 F9 B10 E11
attribute [local go_sem] Oper.semAt_some
theorem isWritable_any (d : Nd) (hf : N8.Fine d) (hc : cntT d ≤ 2000) (hdp : depT d ≤ 12) (c0 c1 c2 c3 : Value) (w : World) (hd : NdW w d c0 c1 c2 c3) :
  Calls Tryz.prog 34 #[.agg #[c0, c1, c2, c3]] w fun e w' => e = .returned (.bool true) ∧ Below w.heap.size w w' := by
 obtain ⟨k1, s1, a1, n1, q1, A1, p1, r1, rfl, rfl, rfl, rfl⟩ := nd_shape hd
 have h1 := below_alloc w (.cells #[.int .i64 k1, .string s1, .slice a1 n1 q1, .slice A1 p1 r1] 25)
 have h2 := below_alloc (w.alloc (.cells #[.int .i64 k1, .string s1, .slice a1 n1 q1, .slice A1 p1 r1] 25)) (.cells #[.int .i64 2000] 3)
 have h12 := h1.trans (h2.mono h1.size)
 have hrm : Rm11 (w.heap.size + 1) 2000 ((w.alloc (.cells #[.int .i64 k1, .string s1, .slice a1 n1 q1, .slice A1 p1 r1] 25)).alloc (.cells #[.int .i64 2000] 3)) := by
  have := World.alloc_heap_new (w.alloc (.cells #[.int .i64 k1, .string s1, .slice a1 n1 q1, .slice A1 p1 r1] 25)) (.cells #[.int .i64 2000] 3)
  rwa [World.size_alloc] at this
 have HF := hid (fits_any 2000 d hc hf 12 2000 (2000 - (cntT d : Nat)) (w.heap.size + 1) w.heap.size (.int .i64 k1) (.string s1) (.slice a1 n1 q1) (.slice A1 p1 r1) _ (by omega) (by omega) (by omega) (by omega) rfl (by omega) (NdC.keep (fun b h => ⟨h, h12.block b h⟩) _ hd) hrm)
 have H12 := hid h12
 obtain ⟨x0, x1, x2, x3⟩ := (show Row4 _ w.heap.size 25 (.int .i64 k1) (.string s1) (.slice a1 n1 q1) (.slice A1 p1 r1) from below_heap h2 (Row4.make w _ _ _ _ _)).cells
 clear hd h1 h2 h12 hrm hc hdp hf
 go_enter Tryz.func34, Tryz.ntmps34
 go_wp2_with fail
 refine HF.out.mono ?_
 rintro e w2 ⟨rfl, -, hb2⟩
 have HR := hid (H12.out.trans (hb2.below (n := w.heap.size) (by omega) H12.out.size))
 clear hb2 x0 x1 x2 x3
 go_wp2
 go_ret
 exact ⟨rfl, HR.out⟩
theorem fileLines_any (d : Nd) (hf : N8.Fine d) (hc : cntT d ≤ 2000) (hdp : depT d ≤ 12) (ha : allT 1000000 d) (hlim : Lim (lnT d)) (n0 : Nat) (c0 c1 c2 c3 : Value) (w : World) (hn : n0 ≤ w.heap.size) (hd : NdC (· < n0) w d c0 c1 c2 c3) :
  Calls Tryz.prog 17 #[.agg #[c0, c1, c2, c3]] w fun e w' => ∃ v, e = .returned v ∧ Below w.heap.size w w' ∧ Seqs Tryz.prog T8 n0 w.heap.size v (flL d) w' := by
 obtain ⟨k1, s1, a1, n1, q1, A1, m1, r1, rfl, rfl, rfl, rfl⟩ := hd.cellsOk
 obtain ⟨hk1, hs1⟩ : d.kind = k1 ∧ s1.data.toList = d.text := by
  obtain ⟨k, t, ks, ds⟩ := d
  rw [NdC] at hd
  obtain ⟨h0, h1, -⟩ := hd
  injection h0 with _ h0
  injection h1 with h1
  exact ⟨h0.symm, by rw [h1, ba_data]; rfl⟩
 have HK := hid (NK.start hn hd)
 have HW := hid (fun W hW => isWritable_any d hf hc hdp (.int .i64 k1) (.string s1) (.slice a1 n1 q1) (.slice A1 m1 r1) W hW)
 have HM := hid (fun b hb W hW => isMarker_any d b hb (.int .i64 k1) (.string s1) (.slice a1 n1 q1) (.slice A1 m1 r1) W hW)
 have HI := hid (fun W hW hN => inner_any 2000 (by omega) d hc hf ha hlim n0 (.int .i64 k1) (.string s1) (.slice a1 n1 q1) (.slice A1 m1 r1) W hW hN)
 have htx := text_all ha
 obtain ⟨x0, x1, x2, x3⟩ := HK.out.2.1.cells
 unfold flL
 by_cases h0 : d.kind = 0
 ·rw [if_pos h0]
  rw [hk1] at h0
  subst h0
  clear hd hf hc hdp ha hlim HM HI hs1 htx hk1
  go_enter Tryz.func17, Tryz.ntmps17
  go_wp2_with fail
  generalize w.alloc (.cells #[.int .i64 0, .string s1, .slice a1 n1 q1, .slice A1 m1 r1] 25) = W1 at *
  refine (HW.out _ (HK.out.nd hn)).mono ?_
  rintro e W2 ⟨rfl, hb2⟩
  have HK2 := hid (HK.out.go hn hb2)
  clear x0 x1 x2 x3 hb2
  obtain ⟨x0, x1, x2, x3⟩ := HK2.out.2.1.cells
  go_wp2
  go_ret
  exact ⟨_, rfl, HK2.out.1, _, _, rfl, enters_of Tryz.func35 (by kernel_rfl) rfl, none_iter n0 w.heap.size W2⟩
 ·rw [if_neg h0]
  have g0 : (k1 == 0) = false := beq_eq_false_iff_ne.2 (by rw [← hk1]; exact h0)
  by_cases h1 : d.kind = 1 ∧ marker d.text = true
  ·rw [if_pos h1]
   have HM1 := hid (fun W hW => HM.out true (by rw [decide_eq_true h1.1, h1.2]; rfl) W hW)
   obtain ⟨Z, hZ⟩ : ∃ Z, ba (dblL d.text) = Z := ⟨_, rfl⟩
   have hZl : Z.data.toList = dblL d.text := by rw [← hZ, ba_data]
   have HD := hid (fun W => Double_any s1 W (by rw [← len_eq, hs1]; exact htx) Z (by rw [hs1, hZl]))
   have HO := hid (fun W => oneLine_any n0 Z W)
   rw [← hZl]
   clear hd hf hc hdp ha hlim HM HI hs1 htx hk1 h0 h1 hZ hZl
   go_enter Tryz.func17, Tryz.ntmps17
   go_wp2_with fail
   generalize w.alloc (.cells #[.int .i64 k1, .string s1, .slice a1 n1 q1, .slice A1 m1 r1] 25) = W1 at *
   refine (HW.out _ (HK.out.nd hn)).mono ?_
   rintro e W2 ⟨rfl, hb2⟩
   have HK2 := hid (HK.out.go hn hb2)
   clear x0 x1 x2 x3 hb2
   obtain ⟨x0, x1, x2, x3⟩ := HK2.out.2.1.cells
   go_wp2_with fail
   refine (HM1.out _ (HK2.out.nd hn)).mono ?_
   rintro e W3 ⟨rfl, hb3⟩
   have HK3 := hid (HK2.out.go hn hb3)
   clear x0 x1 x2 x3 hb3
   obtain ⟨x0, x1, x2, x3⟩ := HK3.out.2.1.cells
   go_wp2_with fail
   refine (HD.out _).mono ?_
   rintro e W4 ⟨rfl, hb4⟩
   have HK4 := hid (HK3.out.go hn hb4)
   clear x0 x1 x2 x3 hb4
   go_wp2_with fail
   refine (HO.out _).mono ?_
   rintro e W5 ⟨v, rfl, hb5, hseq⟩
   have HR := hid (And.intro (HK4.out.go hn hb5).1 (hseq.lower HK4.out.1.size))
   clear hb5 hseq
   go_wp2
   go_ret
   exact ⟨_, rfl, HR.out.1, HR.out.2⟩
  ·rw [if_neg h1]
   have HM1 := hid (fun W hW => HM.out false (by
    rw [Bool.and_eq_false_iff]
    by_cases e : d.kind = 1
    ·exact .inr (Bool.eq_false_iff.2 fun e2 => h1 ⟨e, e2⟩)
    ·exact .inl (decide_eq_false e)) W hW)
   clear hd hf hc hdp ha hlim HM hs1 htx hk1 h0 h1
   go_enter Tryz.func17, Tryz.ntmps17
   go_wp2_with fail
   generalize w.alloc (.cells #[.int .i64 k1, .string s1, .slice a1 n1 q1, .slice A1 m1 r1] 25) = W1 at *
   refine (HW.out _ (HK.out.nd hn)).mono ?_
   rintro e W2 ⟨rfl, hb2⟩
   have HK2 := hid (HK.out.go hn hb2)
   clear x0 x1 x2 x3 hb2
   obtain ⟨x0, x1, x2, x3⟩ := HK2.out.2.1.cells
   go_wp2_with fail
   refine (HM1.out _ (HK2.out.nd hn)).mono ?_
   rintro e W3 ⟨rfl, hb3⟩
   have HK3 := hid (HK2.out.go hn hb3)
   clear x0 x1 x2 x3 hb3
   obtain ⟨x0, x1, x2, x3⟩ := HK3.out.2.1.cells
   go_wp2_with fail
   refine (HI.out _ (Nat.le_trans hn HK3.out.1.size) HK3.out.2.2).mono ?_
   rintro e W4 ⟨v, rfl, hb4, hseq⟩
   have HR := hid (And.intro (HK3.out.go hn hb4).1 (hseq.lower HK3.out.1.size))
   clear x0 x1 x2 x3 hb4 hseq
   go_wp2
   go_ret
   exact ⟨_, rfl, HR.out.1, HR.out.2⟩
theorem builder_turned {T : TypeId} {B b B' : Nat} {bs : List Value} {W W' : World} (h : Lib.IsBuilderF T T8 B b bs W) (hT : Turned T8 B' W W') (hb : b < B') : Lib.IsBuilderF T T8 B b bs W' := by
 have one : ∀ p, Lib.BuilderAtF T T8 B b p bs W → Lib.BuilderAtF T T8 B b p bs W' := by
  rintro p ⟨hB, v, hbk, ⟨hl, hown⟩, hne⟩
  refine ⟨hB, v, hT.same _ _ hbk (.inl hb), ⟨hl, ?_⟩, hne⟩
  rcases hown with h0 | ⟨g, cap, cur, fz, h1, h2, h3, h4⟩
  ·exact .inl h0
  ·exact .inr ⟨g, cap, cur, fz, h1, h2, hT.same _ _ h3 (.inr (by simp [rowOf])), h4⟩
 exact h.elim (fun x => .inl (one _ x)) (fun x => .inr (one _ x))
theorem kept_others {n0 C b B : Nat} {W W' : World} (hb : Below B W W') (ho : Lib.OthersKept T8 (some b) W W') (hn : n0 ≤ B) (hC : b < C) : Kept T8 n0 C C W W' :=
 ⟨hb.os, hb.tape, hb.output, hb.size, fun k o hk h2 => by
  have oth : b < k → rowOf T8 o = false → W'.heap[k]? = some o := fun h hr => ho k o hk (fun e => by injection e with e; omega) (fun c fz e => by subst e; simp [rowOf] at hr)
  rcases h2 with h | ⟨h, _, hr⟩ | ⟨h, hr⟩
  ·exact below_same hb (by omega) hk
  ·exact oth (by omega) hr
  ·exact oth (by omega) hr⟩
end
end Go.Proofs.YtmdgpejedbkkdaaGreatDoor
