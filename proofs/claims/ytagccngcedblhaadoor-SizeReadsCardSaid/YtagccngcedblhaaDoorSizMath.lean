/- Plain mathematics of the texts of amounts; no program is named here. -/
import Derived.Test.YtagccngcedblhaaDoorDigNum
namespace Go.Proofs.YtagccngcedblhaaDoor
open Dg
set_option linter.unusedVariables false

/-- The bytes of the unit that is spelled so (0: none). -/
def uz (l : List UInt8) : Nat :=
  if l = [] ∨ l = [98] then 1 else if l = [107] ∨ l = [107, 98] then 1024 else if l = [109] ∨ l = [109, 98] then 1048576 else if l = [103] ∨ l = [103, 98] then 1073741824 else 0
/-- The digits with which a text begins, and what is behind them. -/
def hdD (l : List UInt8) : List UInt8 := l.takeWhile isDig
def tlD (l : List UInt8) : List UInt8 := l.dropWhile isDig
theorem hd_tl (l : List UInt8) : hdD l ++ tlD l = l := List.takeWhile_append_dropWhile
theorem tlD_len (l : List UInt8) : (tlD l).length ≤ l.length := by
  have := congrArg List.length (hd_tl l); rw [List.length_append] at this; omega
theorem hdD_digs (l : List UInt8) : digs (hdD l) = true := by
  unfold digs hdD; rw [List.all_eq_true]; intro x hx
  induction l with
  | nil => simp at hx
  | cons a l ih =>
    rw [List.takeWhile_cons] at hx
    split at hx
    · rcases List.mem_cons.1 hx with rfl | h
      · assumption
      · exact ih h
    · simp at hx
theorem uz_cases (l : List UInt8) : (uz l = 0 ∧ l ≠ [] ∧ l ≠ [98] ∧ l ≠ [107] ∧ l ≠ [107, 98] ∧ l ≠ [109] ∧ l ≠ [109, 98] ∧ l ≠ [103] ∧ l ≠ [103, 98]) ∨
    (uz l = 1 ∧ (l = [] ∨ l = [98])) ∨ (uz l = 1024 ∧ (l = [107] ∨ l = [107, 98])) ∨ (uz l = 1048576 ∧ (l = [109] ∨ l = [109, 98])) ∨ (uz l = 1073741824 ∧ (l = [103] ∨ l = [103, 98])) := by
  by_cases h1 : l = [] ∨ l = [98]
  · right; left; exact ⟨if_pos h1, h1⟩
  · by_cases h2 : l = [107] ∨ l = [107, 98]
    · right; right; left; exact ⟨(if_neg h1).trans (if_pos h2), h2⟩
    · by_cases h3 : l = [109] ∨ l = [109, 98]
      · right; right; right; left; exact ⟨(if_neg h1).trans ((if_neg h2).trans (if_pos h3)), h3⟩
      · by_cases h4 : l = [103] ∨ l = [103, 98]
        · right; right; right; right; exact ⟨(if_neg h1).trans ((if_neg h2).trans ((if_neg h3).trans (if_pos h4))), h4⟩
        · left
          rw [not_or] at h1 h2 h3 h4
          exact ⟨(if_neg (by rw [not_or]; exact h1)).trans ((if_neg (by rw [not_or]; exact h2)).trans ((if_neg (by rw [not_or]; exact h3)).trans (if_neg (by rw [not_or]; exact h4)))), h1.1, h1.2, h2.1, h2.2, h3.1, h3.2, h4.1, h4.2⟩
/-- What Parse returns. -/
def zN (l : List UInt8) : Int := if uz (tlD l) = 0 then 0 else countN (hdD l) ((1125899906842624 / uz (tlD l) : Nat) : Int) * (uz (tlD l) : Int)
def zE (l : List UInt8) : Int := if uz (tlD l) = 0 then 3 else countE (hdD l) ((1125899906842624 / uz (tlD l) : Nat) : Int)
theorem z_no {l : List UInt8} (h : uz (tlD l) = 0) : zN l = 0 ∧ zE l = 3 := ⟨if_pos h, if_pos h⟩
theorem z_at {l : List UInt8} {u : Nat} (h : uz (tlD l) = u) (h0 : u ≠ 0) : zN l = countN (hdD l) ((1125899906842624 / u : Nat) : Int) * (u : Int) ∧ zE l = countE (hdD l) ((1125899906842624 / u : Nat) : Int) := by
  subst h
  exact ⟨if_neg h0, if_neg h0⟩
theorem count_cases (l : List UInt8) (k : Nat) : (whole l = false ∧ countN l k = 0 ∧ countE l k = 3) ∨ (whole l = true ∧ val l ≤ k ∧ countN l k = (val l : Int) ∧ countE l k = 0) ∨ (whole l = true ∧ k < val l ∧ countN l k = 0 ∧ countE l k = 9) := by
  have e1 : countN l (k : Int) = if whole l then valN l (k : Int) else 0 := if_neg (by omega)
  have e2 : countE l (k : Int) = if whole l then valE l (k : Int) else 3 := if_neg (by omega)
  rw [e1, e2]
  by_cases hw : whole l = true
  · right
    rw [if_pos hw, if_pos hw]
    by_cases hv : val l ≤ k
    · left; exact ⟨hw, hv, valN_ok (by omega), valE_ok (by omega)⟩
    · right; exact ⟨hw, by omega, valN_big (by omega), valE_big (by omega)⟩
  · left; rw [if_neg hw, if_neg hw]; exact ⟨by simpa using hw, rfl, rfl⟩
theorem zN_bd (l : List UInt8) : 0 ≤ zN l ∧ zN l ≤ 1125899906842624 := by
  rcases uz_cases (tlD l) with ⟨h, -⟩ | ⟨h, -⟩ | ⟨h, -⟩ | ⟨h, -⟩ | ⟨h, -⟩
  · rw [(z_no h).1]; omega
  all_goals
    rw [(z_at h (by decide)).1]
    rcases count_cases (hdD l) _ with ⟨-, e, -⟩ | ⟨-, hv, e, -⟩ | ⟨-, -, e, -⟩ <;> rw [e] <;> omega
/-- The number of the unit in the canonical form of an amount, its bytes and its letter. -/
def jz (n : Nat) : Nat := if n = 0 ∨ n % 1024 ≠ 0 then 0 else if n % 1048576 ≠ 0 then 1 else if n % 1073741824 ≠ 0 then 2 else 3
def bz (n : Nat) : Nat := if n = 0 ∨ n % 1024 ≠ 0 then 1 else if n % 1048576 ≠ 0 then 1024 else if n % 1073741824 ≠ 0 then 1048576 else 1073741824
def ltz (n : Nat) : List UInt8 := if n = 0 ∨ n % 1024 ≠ 0 then [] else if n % 1048576 ≠ 0 then [107] else if n % 1073741824 ≠ 0 then [109] else [103]
theorem jz_cases (n : Nat) : (jz n = 0 ∧ bz n = 1 ∧ ltz n = [] ∧ (n = 0 ∨ n % 1024 ≠ 0)) ∨ (jz n = 1 ∧ bz n = 1024 ∧ ltz n = [107] ∧ n ≠ 0 ∧ n % 1024 = 0 ∧ n % 1048576 ≠ 0) ∨
    (jz n = 2 ∧ bz n = 1048576 ∧ ltz n = [109] ∧ n ≠ 0 ∧ n % 1048576 = 0 ∧ n % 1073741824 ≠ 0) ∨ (jz n = 3 ∧ bz n = 1073741824 ∧ ltz n = [103] ∧ n ≠ 0 ∧ n % 1073741824 = 0) := by
  by_cases h1 : n = 0 ∨ n % 1024 ≠ 0
  · left; exact ⟨if_pos h1, if_pos h1, if_pos h1, h1⟩
  · have h1' : n ≠ 0 ∧ n % 1024 = 0 := by omega
    by_cases h2 : n % 1048576 ≠ 0
    · right; left; exact ⟨(if_neg h1).trans (if_pos h2), (if_neg h1).trans (if_pos h2), (if_neg h1).trans (if_pos h2), h1'.1, h1'.2, h2⟩
    · by_cases h3 : n % 1073741824 ≠ 0
      · right; right; left
        exact ⟨(if_neg h1).trans ((if_neg h2).trans (if_pos h3)), (if_neg h1).trans ((if_neg h2).trans (if_pos h3)), (if_neg h1).trans ((if_neg h2).trans (if_pos h3)), h1'.1, by omega, h3⟩
      · right; right; right
        exact ⟨(if_neg h1).trans ((if_neg h2).trans (if_neg h3)), (if_neg h1).trans ((if_neg h2).trans (if_neg h3)), (if_neg h1).trans ((if_neg h2).trans (if_neg h3)), h1'.1, by omega⟩
/-- What Text and Unit return. -/
def zTN (n : Nat) : List UInt8 := dgw 1 (n / bz n) ++ ltz n
def zT (n : Int) : List UInt8 := if n < 0 ∨ 1125899906842624 < n then [] else zTN n.toNat
def zU (n : Int) : Int := if n < 0 ∨ 1125899906842624 < n then 0 else (bz n.toNat : Int)
theorem zT_no {n : Int} (h : n < 0 ∨ 1125899906842624 < n) : zT n = [] := if_pos h
theorem zU_no {n : Int} (h : n < 0 ∨ 1125899906842624 < n) : zU n = 0 := if_pos h
theorem zT_in {m : Nat} (h : m ≤ 1125899906842624) : zT (m : Int) = zTN m := by
  unfold zT; rw [if_neg (by omega), Int.toNat_natCast]
theorem zU_in {m : Nat} (h : m ≤ 1125899906842624) : zU (m : Int) = (bz m : Int) := by
  unfold zU; rw [if_neg (by omega), Int.toNat_natCast]
/-- A canonical form, cut behind its digits. -/
theorem tw_none {d t : List UInt8} (hd : digs d = true) (ht : t = [] ∨ ∃ c, t = [c] ∧ isDig c = false) : hdD (d ++ t) = d ∧ tlD (d ++ t) = t := by
  have hall : ∀ x ∈ d, isDig x = true := by unfold digs at hd; rw [List.all_eq_true] at hd; exact hd
  rcases ht with rfl | ⟨c, rfl, hc⟩
  · rw [List.append_nil]; exact tw_all hall
  · exact tw_split (p := isDig) (c := c) (b := []) hc hall
theorem zTN_parts (n : Nat) : hdD (zTN n) = dgw 1 (n / bz n) ∧ tlD (zTN n) = ltz n ∧ uz (ltz n) = bz n ∧ n / bz n * bz n = n ∧ bz n ≠ 0 := by
  have hd := digs_dgw 1 (n / bz n)
  unfold zTN
  rcases jz_cases n with ⟨-, hb, hl, h⟩ | ⟨-, hb, hl, h⟩ | ⟨-, hb, hl, h⟩ | ⟨-, hb, hl, h⟩ <;> rw [hl] <;> rw [hb] at hd ⊢
  · exact ⟨(tw_none hd (Or.inl rfl)).1, (tw_none hd (Or.inl rfl)).2, rfl, by omega, by decide⟩
  · have k := tw_none hd (t := [107]) (Or.inr ⟨107, rfl, rfl⟩)
    exact ⟨k.1, k.2, rfl, by omega, by decide⟩
  · have k := tw_none hd (t := [109]) (Or.inr ⟨109, rfl, rfl⟩)
    exact ⟨k.1, k.2, rfl, by omega, by decide⟩
  · have k := tw_none hd (t := [103]) (Or.inr ⟨103, rfl, rfl⟩)
    exact ⟨k.1, k.2, rfl, by omega, by decide⟩
/-- 4.2, first: the canonical form is read as its amount. -/
theorem z_back {n : Nat} (h : n ≤ 1125899906842624) : zN (zTN n) = (n : Int) ∧ zE (zTN n) = 0 := by
  obtain ⟨h1, h2, h3, h4, h5⟩ := zTN_parts n
  have hu : uz (tlD (zTN n)) = bz n := by rw [h2, h3]
  obtain ⟨e1, e2⟩ := z_at hu h5
  rw [e1, e2, h1]
  have hle : n / bz n ≤ 1125899906842624 / bz n := Nat.div_le_div_right h
  rcases count_cases (dgw 1 (n / bz n)) (1125899906842624 / bz n) with ⟨hw, -⟩ | ⟨-, -, a, b⟩ | ⟨-, hv, -⟩
  · rw [whole_dgw] at hw; exact absurd hw (by decide)
  · rw [a, b, val_dgw]
    refine ⟨?_, rfl⟩
    have := congrArg (fun x : Nat => (x : Int)) h4
    simpa using this
  · rw [val_dgw] at hv; omega
/-- A number at least 1024 times as great has a longer form. -/
theorem dgw_longer {m v : Nat} (h0 : 0 < m) (h : 1024 * m ≤ v) : (dgw 1 m).length + 1 ≤ (dgw 1 v).length := by
  by_cases hc : (dgw 1 v).length ≤ (dgw 1 m).length
  · exfalso
    have h1 := val_lt (digs_dgw 1 v)
    rw [val_dgw] at h1
    have h2 : v < 10 ^ (dgw 1 m).length := Nat.lt_of_lt_of_le h1 (Nat.pow_le_pow_right (by decide) hc)
    have hp := dgw_one_pos m
    by_cases hL : (dgw 1 m).length = 1
    · rw [hL] at h2; omega
    · obtain ⟨k, hk⟩ : ∃ k, (dgw 1 m).length = k + 1 + 1 := ⟨(dgw 1 m).length - 2, by omega⟩
      have h3 := val_long (whole_dgw m) k (by omega)
      rw [val_dgw] at h3
      rw [hk, Nat.pow_succ] at h2
      omega
  · omega
theorem zTN_zero : zTN 0 = [48] := by
  unfold zTN
  rw [show (0 : Nat) / bz 0 = 0 from Nat.zero_div _, show ltz 0 = [] from rfl, List.append_nil, dgw_small (by decide)]; rfl
theorem zTN_len {v u t n : Nat} (hu : u = 1 ∨ (u = 1024 ∨ u = 1048576 ∨ u = 1073741824) ∧ 1 ≤ t) (hn : n = v * u) : (zTN n).length ≤ (dgw 1 v).length + t := by
  have hp := dgw_one_pos v
  by_cases h0 : v = 0
  · have e : n = 0 := by rw [hn, h0, Nat.zero_mul]
    rw [e, zTN_zero]; simp only [List.length_cons, List.length_nil]; omega
  · unfold zTN
    rw [List.length_append]
    rcases jz_cases n with ⟨-, hb, hl, g⟩ | ⟨-, hb, hl, g0, g⟩ | ⟨-, hb, hl, g0, g⟩ | ⟨-, hb, hl, g0, g⟩ <;> rw [hb, hl] <;> simp only [List.length_cons, List.length_nil] <;>
      rcases hu with rfl | ⟨rfl | rfl | rfl, ht⟩ <;>
      first
      | (exfalso; omega)
      | (have e : n / 1 = v := by omega
         rw [e]; omega)
      | (have e : n / 1024 = v := by omega
         rw [e]; omega)
      | (have e : n / 1048576 = v := by omega
         rw [e]; omega)
      | (have e : n / 1073741824 = v := by omega
         rw [e]; omega)
      | (have e := dgw_longer (m := n / 1024) (v := v) (by omega) (by omega)
         omega)
      | (have e := dgw_longer (m := n / 1048576) (v := v) (by omega) (by omega)
         omega)
      | (have e := dgw_longer (m := n / 1073741824) (v := v) (by omega) (by omega)
         omega)
/-- 4.2, second: no text of an amount is shorter than the canonical form. -/
theorem z_short {l : List UInt8} (h : zE l = 0) : (zT (zN l)).length ≤ l.length := by
  have hlen : (hdD l).length + (tlD l).length = l.length := by
    have := congrArg List.length (hd_tl l); rwa [List.length_append] at this
  have main : ∀ u : Nat, uz (tlD l) = u → u ≠ 0 → (u = 1 ∨ (u = 1024 ∨ u = 1048576 ∨ u = 1073741824) ∧ 1 ≤ (tlD l).length) → (zT (zN l)).length ≤ l.length := by
    intro u hu h0 hc
    obtain ⟨e1, e2⟩ := z_at hu h0
    rw [e2] at h
    rcases count_cases (hdD l) (1125899906842624 / u) with ⟨-, -, e⟩ | ⟨hw, hv, en, -⟩ | ⟨-, -, -, e⟩
    · rw [e] at h; exact absurd h (by decide)
    · have hform := dgw_of_whole hw
      have e3 : zN l = ((val (hdD l) * u : Nat) : Int) := by rw [e1, en]; simp
      have hmul : val (hdD l) * u ≤ 1125899906842624 := Nat.le_trans (Nat.mul_le_mul_right u hv) (Nat.div_mul_le_self _ _)
      rw [e3, zT_in hmul]
      have := zTN_len (v := val (hdD l)) (t := (tlD l).length) hc rfl
      rw [hform] at this
      omega
    · rw [e] at h; exact absurd h (by decide)
  rcases uz_cases (tlD l) with ⟨hu, -⟩ | ⟨hu, ht⟩ | ⟨hu, ht⟩ | ⟨hu, ht⟩ | ⟨hu, ht⟩
  · rw [(z_no hu).2] at h; exact absurd h (by decide)
  · exact main _ hu (by decide) (Or.inl rfl)
  · exact main _ hu (by decide) (Or.inr ⟨Or.inl rfl, by rcases ht with e | e <;> rw [e] <;> decide⟩)
  · exact main _ hu (by decide) (Or.inr ⟨Or.inr (Or.inl rfl), by rcases ht with e | e <;> rw [e] <;> decide⟩)
  · exact main _ hu (by decide) (Or.inr ⟨Or.inr (Or.inr rfl), by rcases ht with e | e <;> rw [e] <;> decide⟩)
theorem z_nil : zN [] = 0 ∧ zE [] = 3 := ⟨rfl, rfl⟩
end Go.Proofs.YtagccngcedblhaaDoor
