/- The contract of the document's own constants. -/
import Derived.Test.YtefjdbgmakddjaaShaConst
namespace Go.Proofs.Ytefjdbgmakddjaa
open Go.RowKit Go.Sort
open Sh Ro Pr
set_option linter.unusedVariables false
theorem infoU0 : (Try.prog.info? 25).map (fun i => (i.zero, i.size, i.bytes)) = some (some (.int .u32 0), 1, 4) := by kernel_rfl
theorem infoU : ∃ i, Try.prog.info? 25 = some i ∧ i.zero = some (.int .u32 0) ∧ i.size = 1 ∧ i.bytes = 4 := by
  have h := infoU0
  cases hi : Try.prog.info? 25 with
  | none => rw [hi] at h; cases h
  | some i =>
    rw [hi] at h
    simp only [Option.map_some, Option.some.injEq, Prod.mk.injEq] at h
    exact ⟨i, rfl, h.1, h.2.1, h.2.2⟩
theorem owns_below {w w' : World} {base n size : Nat} {e : TypeId} {v : Value} {xs : List Value} (h : w.ownsRow base e size v n xs) (hb : Below w.heap.size w w') : w'.ownsRow base e size v n xs := by
  refine ⟨h.1, ?_⟩
  rcases h.2 with h0 | ⟨g, cap, cur, h1, h2, h3, h4⟩
  · exact .inl h0
  · exact .inr ⟨g, cap, cur, h1, h2, row_below h3 hb (row_lt h3), h4⟩
theorem owns_fresh {w : World} {base n size : Nat} {e : TypeId} {b cap : Nat} {xs : List Value} (h : w.ownsRow base e size (.slice (some ⟨b, 0, none⟩) n cap) n xs) : base ≤ b := by
  rcases h.2 with ⟨h0, _⟩ | ⟨g, cap', cur, h1, h2, _⟩
  · cases h0
  · injection h1 with h1; injection h1 with h1; injection h1 with h1; omega
theorem row_alloc_eq {w : World} {b : Nat} (h : b < w.heap.size) (o : Obj) : (w.alloc o).heap[b]? = w.heap[b]? := by
  show (w.heap.push o)[b]? = _
  rw [Array.getElem?_push, if_neg (Nat.ne_of_lt h)]
/-- The constants as a list. -/
def kl : List Int := (primesL 64).map fun p : Nat => rootI (p : Int) 3
theorem kl_len : kl.length = 64 := by
  unfold kl; rw [List.length_map]; exact primesL_length (n := 64) (by decide)
theorem kl_elem (j : Nat) (h : j < kl.length) (h2 : j < (primesL 64).length) : kl[j] = rootI (((primesL 64)[j] : Nat) : Int) 3 := List.getElem_map (fun p : Nat => rootI (p : Int) 3)
theorem kl_get (j : Nat) (h : j < kl.length) : kl[j] = kc j := by
  have h64 : (primesL 64).length = 64 := primesL_length (n := 64) (by decide)
  have hj : j < (primesL 64).length := by rw [h64]; rw [kl_len] at h; exact h
  refine (kl_elem j h hj).trans ?_
  unfold kc
  rw [List.getD_eq_getElem?_getD, List.getElem?_eq_getElem hj]
  rfl
theorem RRoot_q (p kind x : Int) (w : World) (h : rootI p kind = x) :
    Calls Try.prog 11 #[.int .i64 p, .int .i64 kind] w fun e w' => e = .returned (.int .u32 x) ∧ Below w.heap.size w w' := by
  subst h; exact RRoot_any p kind w
theorem RPrimes_q (n : Int) (l : List Nat) (w : World) (h : primesL n = l) :
    Calls Try.prog 9 #[.int .i64 n] w fun e w' => ∃ v, e = .returned v ∧ w'.ownsRow w.heap.size 3 1 v l.length (l.map encN) ∧ Below w.heap.size w w' := by
  subst h; exact RPrimes_own n w
theorem take_snoc {l : List Int} {k : Nat} (h : k < l.length) : (l.take (k + 1)).map encU = (l.take k).map encU ++ [.int .u32 l[k]] := by
  rw [List.take_succ_eq_append_getElem h, List.map_append]; rfl
set_option maxHeartbeats 4000000 in
theorem Rconstants_any (w : World) :
    Calls Try.prog 32 #[] w fun e w' => ∃ v, e = .returned v ∧ RE encU w' v kl ∧ Below w.heap.size w w' := by
  obtain ⟨i0, hi, hz0, hz1, hz2⟩ := infoU
  obtain ⟨l, hl⟩ : ∃ l, primesL 64 = l := ⟨_, rfl⟩
  have hlen : l.length = 64 := by rw [← hl]; exact primesL_length (n := 64) (by decide)
  have HP := Lib.hid fun w0 => RPrimes_q 64 l w0 hl
  have HKG : Hid (∀ j (h : j < l.length) (h2 : j < kl.length), rootI ((l[j] : Nat) : Int) 3 = kl[j]) := Lib.hid (by
    intro j h h2
    subst hl; exact (kl_elem j h2 h).symm)
  clear hl
  have HO0 := Lib.hid (own_nil w 25)
  have HB0 := Lib.hid ((Below.refl _ w).alloc (Nat.le_refl _) (.cells #[] 25))
  go_enter Try.func32, Try.ntmps32
  go_wp2_with fail
  refine (HP.out _).mono ?_
  rintro e w1 ⟨v, rfl, hown, hb1⟩
  have r0 := Lib.hid (owns_below HO0.out hb1)
  have r5 := Lib.hid (Below.trans HB0.out (hb1.mono HB0.out.size))
  obtain ⟨a, cap, rfl, hcap, hmx, hcells⟩ := re_of_owns hown
  rcases hcells with ⟨h0', -⟩ | ⟨b, rfl, hbl, hcs⟩
  · rw [h0'] at hlen; exact absurd hlen (by decide)
  have hbg := owns_fresh hown
  have HBG : Hid (w.heap.size < b) := Lib.hid (by simp at hbg; omega)
  have HCS := Lib.hid hcs
  rw [hlen] at hcap ⊢
  unfold maxLen at hmx
  clear hb1 hcs hown hbg HO0 HB0
  obtain ⟨w0, hw0⟩ : ∃ w0, w0 = w1 := ⟨_, rfl⟩
  subst hw0
  go_wp2
  go_loopw [1, 3] (fun sv si wr => ∃ k : Nat, k ≤ 64 ∧ si = .int .i64 (k : Int) ∧ wr.ownsRow w.heap.size 25 1 sv k ((kl.take k).map encU) ∧ Below w.heap.size w wr ∧ (∀ q, sv.ownBlock = some q → q ≠ b) ∧ b < wr.heap.size ∧ (∀ j (h : j < l.length), wr.cell? ⟨b, j, none⟩ = some (encN l[j]))) (fun _ si _ => 64 - (intOf si).toNat)
  case atStart => exact ⟨0, Nat.zero_le _, rfl, r0.out, r5.out, fun q hq => by simp [Value.ownBlock] at hq; subst hq; have := HBG.out; omega, hbl, HCS.out⟩
  case round =>
    clear r0 r5 HCS hbl
    obtain ⟨k, hk, rfl, hown, hbel, hne, hbl, hcs⟩ := hrel
    have HO := Lib.hid hown
    have HB := Lib.hid hbel
    have HN := Lib.hid hne
    have HBL := Lib.hid hbl
    have HCS := Lib.hid hcs
    clear hown hbel hne hbl hcs
    by_cases hlt : k < 64
    · have hlt2 : k < l.length := by omega
      have hlt3 : k < kl.length := by rw [kl_len]; exact hlt
      have hc : wr.cell? ⟨b, k, none⟩ = some (.int .i64 ((l[k]'hlt2 : Nat) : Int)) := HCS.out k hlt2
      have HX := Lib.hid (HKG.out k hlt2 hlt3)
      have HS := Lib.hid (take_snoc hlt3)
      obtain ⟨p, hp⟩ : ∃ p, l[k]'hlt2 = p := ⟨_, rfl⟩
      rw [hp] at hc HX
      obtain ⟨x, hx⟩ : ∃ x, kl[k]'hlt3 = x := ⟨_, rfl⟩
      rw [hx] at HX HS
      have HRt := Lib.hid (RRoot_q (p : Int) 3 x wr HX.out)
      clear hp hx hlt2 hlt3
      obtain ⟨w9, hw9⟩ : ∃ w9, w9 = wr := ⟨_, rfl⟩
      subst hw9
      go_wp2_with fail
      refine HRt.out.mono ?_
      rintro e w2 ⟨rfl, hb2⟩
      replace HO := Lib.hid (owns_below HO.out hb2)
      replace HB := Lib.hid (HB.out.trans (hb2.mono HB.out.size))
      replace HCS : Hid (∀ j (h : j < l.length), w2.cell? ⟨b, j, none⟩ = some (encN l[j])) := Lib.hid fun j h => (hb2.cell (p := ⟨b, j, none⟩) HBL.out).trans (HCS.out j h)
      replace HBL := Lib.hid (Nat.lt_of_lt_of_le HBL.out hb2.size)
      clear hb2 hc HRt
      obtain ⟨YS, hYS⟩ : ∃ YS, YS = (kl.take k).map encU := ⟨_, rfl⟩
      have hown := HO.out
      rw [← hYS] at hown
      have HYS := Lib.hid hYS
      have HOy := Lib.hid hown
      clear hYS
      go_wp2_with (at_builtin; refine wpList_append_own_at _ rfl _ _ 52 rfl w.heap.size 25 i0 _ 1 4 Try.underlying52 hi hz0 hz1 hz2 rfl (by decide) _ _ _ rfl (hown.alloc _) ⟨w2.heap.size, 0, none⟩ 1 1 [.int .u32 x] rfl rfl ?c1 ?c2 ?c3 ?c4 ?c5 ?_)
      case c1 =>
        intro j u hj
        match j, hj with
        | 0, hj => simp at hj; subst hj; simp [Addr.add]
      case c2 => intro u hu; simp at hu; subst hu; rfl
      case c3 => unfold maxLen; omega
      case c4 => omega
      case c5 => have := HB.out.size; simp; omega
      · intro v' w3 hown' hgrow _ hat
        have HW2 := Lib.hid hown'
        have HG2 := Lib.hid hgrow
        have HAt := Lib.hid hat
        clear hown' hgrow hown hat
        go_wp2
        go_roundw
        case measure => simp [intOf]; omega
        case rel =>
          refine ⟨k + 1, by omega, by go_num, ?_, ?_, ?_, ?_, ?_⟩
          · rw [HS.out, ← HYS.out]; exact HW2.out
          · refine (HB.out.alloc HB.out.size _).grown HG2.out (by have := HB.out.size; simp; omega) ?_
            intro q hq
            exact (HOy.out.lt q hq).1
          · intro q hq
            rcases HAt.out with e | e
            · rw [e] at hq; exact HN.out q hq
            · rw [e] at hq; cases hq; have := HBL.out; simp; omega
          · have := HG2.out.size; have := HBL.out; simp at *; omega
          · intro j hj
            rw [World.cell?_of_block (HG2.out.block b (by have := HBL.out; simp; omega) (fun e => HN.out b e.symm rfl))]
            rw [World.cell?_of_block (row_alloc_eq HBL.out _)]
            exact HCS.out j hj
    · obtain rfl : k = 64 := by omega
      have HF : Hid (RE encU wr _ kl) := Lib.hid (re_of_owns (by have := HO.out; rw [List.take_of_length_le (by rw [kl_len]; exact Nat.le_refl _)] at this; exact this))
      go_wp2
      go_ret
      exact ⟨_, rfl, HF.out, HB.out⟩
end Go.Proofs.Ytefjdbgmakddjaa
