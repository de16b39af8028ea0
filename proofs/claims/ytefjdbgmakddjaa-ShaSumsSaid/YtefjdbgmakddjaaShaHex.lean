/- The contract of Hex. -/
import Derived.Test.YtefjdbgmakddjaaShaConst
import Derived.Laws.BytesArg
import Derived.Deep.RegionLaw
namespace Go.Proofs.Ytefjdbgmakddjaa
open Go.RowKit Go.Sort
open Sh
set_option linter.unusedVariables false
def encB (c : UInt8) : Value := .int .u8 (c.toNat : Int)
theorem infoB0 : (Try.prog.info? 5).map (fun i => (i.zero, i.size, i.bytes)) = some (some (.int .u8 0), 1, 1) := by kernel_rfl
theorem infoB : ∃ i, Try.prog.info? 5 = some i ∧ i.zero = some (.int .u8 0) ∧ i.size = 1 ∧ i.bytes = 1 := by
  have h := infoB0
  cases hi : Try.prog.info? 5 with
  | none => rw [hi] at h; cases h
  | some i =>
    rw [hi] at h
    simp only [Option.map_some, Option.some.injEq, Prod.mk.injEq] at h
    exact ⟨i, rfl, h.1, h.2.1, h.2.2⟩
theorem nums_of (l : List UInt8) : strOfNums (l.map fun c => (c.toNat : Int)) = ⟨l.toArray⟩ := by
  unfold strOfNums
  congr 2
  rw [List.map_map]
  conv => rhs; rw [← List.map_id l]
  apply List.map_congr_left
  intro c _
  simp
theorem conv_read {w' : World} {b len cap : Nat} {l : List UInt8} (hcell : ∀ i (hi : i < l.length), w'.cell? ⟨b, i, none⟩ = some (encB l[i])) (hlen : l.length = len) :
    (convert 46 9 (.slice (some ⟨b, 0, none⟩) len cap)).run Try.prog w' = .ok (.string ⟨l.toArray⟩) w' := by
  have h := run_convert_bytes_arg (P := Try.prog) w' 46 5 Try.underlying46 Try.underlying5 b 0 len cap (l.map fun c => (c.toNat : Int)) (by simpa using hlen) (fun i hi => by
    rw [Nat.zero_add, hcell i (by omega)]
    simp [List.getD, List.getElem?_eq_getElem (show i < l.length by omega), encB]) 9 Try.underlying9
  subst hlen
  rw [h, nums_of]
theorem own_conv {wr : World} {base n : Nat} {v : Value} {l : List UInt8} (h : wr.ownsRow base 5 1 v n (l.map encB)) (hv : v ≠ .slice none 0 0) :
    ∃ g cap, v = .slice (some ⟨g, 0, none⟩) n cap ∧ (convert 46 9 (.slice (some ⟨g, 0, none⟩) n cap)).run Try.prog wr = .ok (.string ⟨l.toArray⟩) wr := by
  obtain ⟨g, cap, rfl, _, hg, h1, h2, hl, hH⟩ := Lib.holds_of_ownsRow h hv
  refine ⟨g, cap, rfl, conv_read (fun i hi => ?_) hl⟩
  have := (hH i (by simpa using hi)).1
  rw [getElem!_pos l.toArray i (by simpa using hi), Nat.zero_add] at this
  simpa using this
theorem cells_new (w : World) (c : Array Value) (t : TypeId) : ∀ j u, c.toList[j]? = some u → (w.alloc (.cells c t)).cell? ((⟨w.heap.size, 0, none⟩ : Addr).add j) = some u := by
  intro j u h
  have hadd : (⟨w.heap.size, 0, none⟩ : Addr).add j = ⟨w.heap.size, j, none⟩ := by unfold Addr.add; split <;> simp_all
  rw [hadd, cell_of_row _ _ j c t (0, 0) (row_new w _)]
  simpa using h
/-- append to a slice of the call's own, as one step of a region that draws. -/
theorem step_append_own {P : Program} {ops : Array Oper} {o : Oper} {a : Act} {w : World} {K : Act → World → Prop} {Q : Exit → Act → World → Prop} {E : Prop} (hg : o.guard = none) (s x : Operand) (t : TypeId)
    (ho : o.op = .call { callee := .builtin .append, args := #[s, x], argTypes := #[t, t] })
    (base : Nat) (e : TypeId) (i : TypeInfo) (z : Value) (size bytes : Nat) (ht : P.underlying t = some (.slice e)) (hi : P.info? e = some i) (hz : i.zero = some z)
    (hsize : i.size = size) (hby : i.bytes = bytes) (hzs : z.cells.size = size) (hsz : 0 < size)
    (v : Value) (n : Nat) (xs : List Value) (hs : a.eval s = v) (hown : w.ownsRow base e size v n xs)
    (ad : Addr) (m c : Nat) (news : List Value) (hx : a.eval x = .slice (some ad) m c) (hl : news.length = m * size) (hnews : ∀ j u, news[j]? = some u → w.cell? (ad.add j) = some u) (h1 : ∀ u ∈ news, u.oneCell' = true)
    (h63 : n + m ≤ maxLen) (hbytes : (n + m) * bytes ≤ 140737488355328) (hbase : base ≤ w.heap.size)
    (h : ∀ v' w', w'.ownsRow base e size v' (n + m) (xs ++ news) → w.grownBy w' v.ownBlock → (v' = .slice none 0 0 ↔ v = .slice none 0 0 ∧ m = 0) → K (a.put o.dst v') w') :
    if Region.wanted o (yielded ops a.tmps) = true then Oper.wp P o a w K Q else E := by
  rw [if_pos (by simp [Region.wanted, hg])]
  exact wp_append_own w s x t ho base e i z size bytes ht hi hz hsize hby hzs hsz v n xs hs hown ad m c news hx hl hnews h1 h63 hbytes hbase h
theorem two_one (a b : Int) : ∀ u ∈ [Value.int .u8 a, Value.int .u8 b], u.oneCell' = true := by
  intro u hu
  simp at hu
  rcases hu with rfl | rfl <;> rfl
theorem owns_drew {w : World} {base n size : Nat} {e : TypeId} {v : Value} {xs : List Value} (h : w.ownsRow base e size v n xs) : w.drew.ownsRow base e size v n xs := h
/-- A digit of sixteen. -/
def dg (n : Nat) : UInt8 := if n < 10 then UInt8.ofNat (48 + n) else UInt8.ofNat (87 + n)
def hexB (c : UInt8) : List UInt8 := [dg (c.toNat / 16), dg (c.toNat % 16)]
def hexL (l : List UInt8) : List UInt8 := (l.map hexB).flatten
theorem dig_at (x : Nat) (h : x < 16) : (⟨#[48, 49, 50, 51, 52, 53, 54, 55, 56, 57, 97, 98, 99, 100, 101, 102]⟩ : ByteArray)[x]'h = dg x := by
  have hx : x = 0 ∨ x = 1 ∨ x = 2 ∨ x = 3 ∨ x = 4 ∨ x = 5 ∨ x = 6 ∨ x = 7 ∨ x = 8 ∨ x = 9 ∨ x = 10 ∨ x = 11 ∨ x = 12 ∨ x = 13 ∨ x = 14 ∨ x = 15 := by omega
  rcases hx with rfl | rfl | rfl | rfl | rfl | rfl | rfl | rfl | rfl | rfl | rfl | rfl | rfl | rfl | rfl | rfl <;> rfl
theorem hexL_len (l : List UInt8) : (hexL l).length = 2 * l.length := by
  induction l with
  | nil => rfl
  | cons c l ih => show (hexB c ++ hexL l).length = _; rw [List.length_append, ih, List.length_cons]; show 2 + _ = _; omega
theorem hexL_snoc {l : List UInt8} {k : Nat} (h : k < l.length) : hexL (l.take (k + 1)) = hexL (l.take k) ++ hexB l[k] := by
  unfold hexL
  rw [List.take_succ_eq_append_getElem h, List.map_append, List.flatten_append]; simp
theorem ret_s {a b : ByteArray} (h : a = b) : Ending.returned (.string a) = .returned (.string b) := by rw [h]

set_option maxHeartbeats 4000000 in
theorem Hex_any (s : ByteArray) (w : World) (hs : s.size ≤ 4000) :
    Calls Try.prog 15 #[.string s] w fun e w' => e = .returned (.string ⟨(hexL s.data.toList).toArray⟩) ∧ Below w.heap.size w w' := by
  obtain ⟨i0, hi, hz0, hz1, hz2⟩ := infoB
  obtain ⟨n, hn⟩ : ∃ n, s.size = n := ⟨_, rfl⟩
  have hlen : s.data.toList.length = n := by rw [← hn]; rfl
  have HLEN := Lib.hid hlen
  obtain ⟨w1, hmk, hown1, hgr1⟩ := run_make_own (P := Try.prog) w w.heap.size 46 5 i0 _ 1 Try.underlying46 hi hz0 hz1 .i64 .i64 (2 * n) (by rw [hz2]; omega) (by unfold maxLen; omega) (Nat.le_refl _)
  have hb1 : Below w.heap.size w w1 := (Below.refl _ _).grown hgr1 (Nat.le_refl _) (by intro p hp; cases hp)
  have HO1 := Lib.hid hown1
  have HB1 := Lib.hid hb1
  have h2n : ((2 * n : Nat) : Int) = 2 * (n : Int) := by omega
  rw [h2n] at hmk
  clear hown1 hgr1 hb1 h2n hlen
  have HS : Hid (∀ k (h : k < s.size) (h2 : k < s.data.toList.length), s[k] = s.data.toList[k]) := Lib.hid fun k h h2 => rfl
  have hw2 : IntKind.i64.wrap (2 * (n : Int)) = 2 * (n : Int) := by exact wrap_sm (by omega) (by omega)
  go_enter Try.func15, Try.ntmps15
  go_wp2
  go_loopw [3, 11] (fun sv si wr => ∃ k : Nat, k ≤ n ∧ si = .int .i64 (k : Int) ∧ wr.ownsRow w.heap.size 5 1 sv (2 * k) ((hexL (s.data.toList.take k)).map encB) ∧ Below w.heap.size w wr ∧ sv ≠ .slice none 0 0) (fun _ si _ => n - (intOf si).toNat)
  case atStart => exact ⟨0, Nat.zero_le _, rfl, HO1.out, HB1.out, by simp⟩
  case round =>
    clear hmk HO1 HB1
    obtain ⟨k, hk, rfl, hown, hbel, hnn⟩ := hrel
    have HNN := Lib.hid hnn
    clear hnn
    have HO := Lib.hid hown
    have HB := Lib.hid hbel
    clear hbel
    by_cases hlt : k < n
    · have hks : k < s.size := by omega
      have hkl : k < s.data.toList.length := by rw [HLEN.out]; exact hlt
      have HX := Lib.hid (hexL_snoc hkl)
      obtain ⟨c, hc⟩ : ∃ c, s.data.toList[k]'hkl = c := ⟨_, rfl⟩
      have hsk : s[k]'hks = c := (HS.out k hks hkl).trans hc
      rw [hc] at HX
      have hskz : (k : Int) < (s.size : Int) := by omega
      have q0 := c.toNat_lt
      obtain ⟨m, hm⟩ : ∃ m, c.toNat = m := ⟨_, rfl⟩
      rw [hm] at q0
      have f1 : ((m : Nat) : Int) / 16 = ((m / 16 : Nat) : Int) := by omega
      have f2 : bits .and .u8 (m : Int) 15 = ((m % 16 : Nat) : Int) := by rw [u8_and15 _ (by omega) (by omega)]; omega
      obtain ⟨u, hu⟩ : ∃ u, m / 16 = u := ⟨_, rfl⟩
      obtain ⟨l, hl⟩ : ∃ l, m % 16 = l := ⟨_, rfl⟩
      rw [hu] at f1
      rw [hl] at f2
      have u16 : u < 16 := by omega
      have l16 : l < 16 := by omega
      have du := dig_at u u16
      have dl := dig_at l l16
      have HH : Hid ((hexB c).map encB = [.int .u8 ((dg u).toNat : Int), .int .u8 ((dg l).toNat : Int)]) := Lib.hid (by unfold hexB; rw [hm, hu, hl]; rfl)
      generalize dg u = cu at du HH
      generalize dg l = cl at dl HH
      clear hc hu hl hkl
      obtain ⟨YS, hYS⟩ : ∃ YS, YS = (hexL (s.data.toList.take k)).map encB := ⟨_, rfl⟩
      rw [← hYS] at hown
      have HYS := Lib.hid hYS
      clear hYS
      have hHb := HB.out.size
      have u16z : (u : Int) < 16 := by omega
      have l16z : (l : Int) < 16 := by omega
      go_wp2
      go_region_law (refine step_append_own rfl _ _ 46 rfl w.heap.size 5 i0 _ 1 1 Try.underlying46 hi hz0 hz1 hz2 rfl (by decide) _ _ _ rfl ((owns_drew hown).alloc _) ⟨wr.heap.size, 0, none⟩ 2 2 [.int .u8 (cu.toNat : Int), .int .u8 (cl.toNat : Int)] rfl rfl ?c1 ?c2 ?c3 ?c4 ?c5 ?_; (case c1 => exact cells_new wr.drew _ _); (case c2 => exact two_one _ _); (case c3 => (unfold maxLen; omega)); (case c4 => omega); (case c5 => (simp; omega)); intro v' w2 hown' hgrow hnil)
      all_goals
        have HW2 := Lib.hid hown'
        have HNil := Lib.hid hnil
        clear hnil
        have HG2 := Lib.hid hgrow
        have HOy := Lib.hid hown
        clear hown' hgrow hown
        go_wp2
        go_roundw
        case measure => simp [intOf]; omega
        case rel =>
          refine ⟨k + 1, by omega, by go_num, ?_, ?_, fun e => HNN.out (HNil.out.1 e).1⟩
          · rw [HX.out, List.map_append, HH.out, ← HYS.out]; exact HW2.out
          · refine ((HB.out.drew).alloc (by show _ ≤ wr.heap.size; exact HB.out.size) _).grown HG2.out (by have := HB.out.size; simp; omega) ?_
            intro q hq
            exact (HOy.out.lt q hq).1
    · obtain rfl : k = n := by omega
      have HT : Hid (s.data.toList.take k = s.data.toList) := Lib.hid (List.take_of_length_le (by rw [HLEN.out]; exact Nat.le_refl _))
      obtain ⟨g, cap, hv, hcv⟩ := own_conv (l := hexL s.data.toList) (by rw [HT.out] at hown; exact hown) HNN.out
      subst hv
      clear hown
      obtain ⟨R, hR⟩ : ∃ R, hexL s.data.toList = R := ⟨_, rfl⟩
      rw [hR] at hcv
      have HR := Lib.hid hR
      clear hR
      go_wp2
      go_ret
      exact ⟨ret_s (by rw [HR.out]), HB.out⟩
end Go.Proofs.Ytefjdbgmakddjaa
