/- Plain mathematics of the texts of durations; no program is named here. -/
import Derived.Test.YtegljoikdfjepaaDoorDigNum
namespace Go.Proofs.YtegljoikdfjepaaDoor
open Dg
set_option linter.unusedVariables false

/-- The milliseconds of the unit with which a text begins (0: none), its place among the units, and what is behind it. -/
def uS : List UInt8 → Nat
  | [] => 0
  | c :: r => if c = 104 then 3600000 else if c = 109 then (if r.head? = some 115 then 1 else 60000) else if c = 115 then 1000 else 0
def uI : List UInt8 → Nat
  | [] => 0
  | c :: r => if c = 104 then 0 else if c = 109 then (if r.head? = some 115 then 3 else 1) else if c = 115 then 2 else 0
def uR : List UInt8 → List UInt8
  | [] => []
  | c :: r => if c = 104 then r else if c = 109 then (if r.head? = some 115 then r.tail else r) else if c = 115 then r else []
theorem uS_cons (c : UInt8) (r : List UInt8) : uS (c :: r) = if c = 104 then 3600000 else if c = 109 then (if r.head? = some 115 then 1 else 60000) else if c = 115 then 1000 else 0 := rfl
theorem uI_cons (c : UInt8) (r : List UInt8) : uI (c :: r) = if c = 104 then 0 else if c = 109 then (if r.head? = some 115 then 3 else 1) else if c = 115 then 2 else 0 := rfl
theorem uR_cons (c : UInt8) (r : List UInt8) : uR (c :: r) = if c = 104 then r else if c = 109 then (if r.head? = some 115 then r.tail else r) else if c = 115 then r else [] := rfl
/-- The digits with which a text begins, and what is behind them. -/
def hdD (l : List UInt8) : List UInt8 := l.takeWhile isDig
def tlD (l : List UInt8) : List UInt8 := l.dropWhile isDig

theorem uS_cases (l : List UInt8) : uS l = 0 ∨ uS l = 3600000 ∧ uI l = 0 ∨ uS l = 60000 ∧ uI l = 1 ∨ uS l = 1000 ∧ uI l = 2 ∨ uS l = 1 ∧ uI l = 3 := by
  match l with
  | [] => left; rfl
  | c :: r =>
    rw [uS_cons, uI_cons]
    by_cases h1 : c = 104
    · right; left; rw [if_pos h1, if_pos h1]; exact ⟨rfl, rfl⟩
    · by_cases h2 : c = 109
      · by_cases h3 : r.head? = some 115
        · right; right; right; right; rw [if_neg h1, if_neg h1, if_pos h2, if_pos h2, if_pos h3, if_pos h3]; exact ⟨rfl, rfl⟩
        · right; right; left; rw [if_neg h1, if_neg h1, if_pos h2, if_pos h2, if_neg h3, if_neg h3]; exact ⟨rfl, rfl⟩
      · by_cases h3 : c = 115
        · right; right; right; left; rw [if_neg h1, if_neg h1, if_neg h2, if_neg h2, if_pos h3, if_pos h3]; exact ⟨rfl, rfl⟩
        · left; rw [if_neg h1, if_neg h2, if_neg h3]
theorem uR_len (l : List UInt8) (h : uS l ≠ 0) : (uR l).length < l.length := by
  match l, h with
  | [], h => exact absurd rfl h
  | c :: r, h =>
    rw [uR_cons]
    have ht : r.tail.length ≤ r.length := by simp
    rw [List.length_cons]
    split
    · omega
    · split
      · split <;> omega
      · split
        · omega
        · simp
theorem hd_tl (l : List UInt8) : hdD l ++ tlD l = l := List.takeWhile_append_dropWhile
theorem tlD_len (l : List UInt8) : (tlD l).length ≤ l.length := by
  have := congrArg List.length (hd_tl l); rw [List.length_append] at this; omega
theorem uR_lt (l : List UInt8) (h : uS (tlD l) ≠ 0) : (uR (tlD l)).length < l.length :=
  Nat.lt_of_lt_of_le (uR_len _ h) (tlD_len l)
theorem uS_nil : uS [] = 0 := rfl
theorem uR_nil : uR [] = [] := rfl

/-- May the group with which a text begins stand behind a unit of 'above' milliseconds? -/
def fits (above : Nat) (l : List UInt8) : Prop :=
  whole (hdD l) = true ∧ ¬ (hdD l = [48] ∧ (above ≤ 3600000 ∨ uR (tlD l) ≠ [])) ∧ uS (tlD l) ≠ 0 ∧ uS (tlD l) < above
instance (above : Nat) (l : List UInt8) : Decidable (fits above l) := by unfold fits; infer_instance
/-- The sum of the groups of a text behind 'acc' milliseconds and a unit of 'above'. -/
def run (above acc : Nat) (l : List UInt8) : Option Nat :=
  if l = [] then some acc
  else if h : fits above l then run (uS (tlD l)) (acc + val (hdD l) * uS (tlD l)) (uR (tlD l)) else none
termination_by l.length
decreasing_by exact uR_lt l h.2.2.1
theorem run_nil (above acc : Nat) : run above acc [] = some acc := by rw [run]; simp
theorem run_go {above acc : Nat} {l : List UInt8} (h : l ≠ []) (g : fits above l) : run above acc l = run (uS (tlD l)) (acc + val (hdD l) * uS (tlD l)) (uR (tlD l)) := by
  rw [run, if_neg h, dif_pos g]
theorem run_no {above acc : Nat} {l : List UInt8} (h : l ≠ []) (g : ¬ fits above l) : run above acc l = none := by
  rw [run, if_neg h, dif_neg g]
def durP (l : List UInt8) : Option Nat := if l = [] then none else run 3600001 0 l
def finN : Option Nat → Int
  | none => 0
  | some t => if t ≤ 1099511627776 then (t : Int) else 0
def finE : Option Nat → Int
  | none => 3
  | some t => if t ≤ 1099511627776 then 0 else 9
def durN (l : List UInt8) : Int := finN (durP l)
def durE (l : List UInt8) : Int := finE (durP l)
theorem fin_none : finN none = 0 ∧ finE none = 3 := ⟨rfl, rfl⟩
theorem fin_ok {t : Nat} (h : t ≤ 1099511627776) : finN (some t) = (t : Int) ∧ finE (some t) = 0 := ⟨if_pos h, if_pos h⟩
theorem fin_big {t : Nat} (h : 1099511627776 < t) : finN (some t) = 0 ∧ finE (some t) = 9 := ⟨if_neg (by omega), if_neg (by omega)⟩

/-- A number 0 alone with a unit. -/
def zeroF (l : List UInt8) : Prop := l.head? = some 48 ∧ uS l.tail ≠ 0 ∧ uR l.tail = []
instance (l : List UInt8) : Decidable (zeroF l) := by unfold zeroF; infer_instance
theorem notDig_of_unit {c : UInt8} {r : List UInt8} (h : uS (c :: r) ≠ 0) : isDig c = false := by
  by_cases h1 : c = 104
  · subst h1; rfl
  · by_cases h2 : c = 109
    · subst h2; rfl
    · by_cases h3 : c = 115
      · subst h3; rfl
      · exfalso; apply h; rw [uS_cons, if_neg h1, if_neg h2, if_neg h3]
theorem tw_unit {t : List UInt8} (h : uS t ≠ 0) {d : List UInt8} (hd : digs d = true) : hdD (d ++ t) = d ∧ tlD (d ++ t) = t := by
  match t, h with
  | [], h => exact absurd rfl h
  | c :: r, h =>
    have hc := notDig_of_unit h
    have hall : ∀ x ∈ d, isDig x = true := by unfold digs at hd; rw [List.all_eq_true] at hd; exact hd
    exact tw_split (p := isDig) (c := c) (b := r) hc hall
theorem zero_parts {l : List UInt8} (h : zeroF l) : hdD l = [48] ∧ tlD l = l.tail := by
  obtain ⟨h1, h2, h3⟩ := h
  obtain ⟨t, rfl⟩ := List.head?_eq_some_iff.1 h1
  exact tw_unit (t := t) h2 (d := [48]) rfl
theorem durP_zero {l : List UInt8} (h : zeroF l) : durP l = some 0 := by
  obtain ⟨p1, p2⟩ := zero_parts h
  have hne : l ≠ [] := by rintro rfl; exact absurd h.1 (by simp)
  have hb : uS l.tail < 3600001 := by rcases uS_cases l.tail with h | h | h | h | h <;> omega
  unfold durP
  rw [if_neg hne, run_go hne ⟨by rw [p1]; rfl, by rw [p2, h.2.2]; simp, by rw [p2]; exact h.2.1, by rw [p2]; exact hb⟩, p1, p2, h.2.2, run_nil]
  congr 1
  show 0 + val [48] * _ = 0
  rw [show val [48] = 0 from rfl]; omega
/-- Where no number 0 stands alone, a group's number is not 0. -/
theorem fits_pos {above : Nat} {l : List UInt8} (hz : above = 3600001 → ¬ zeroF l) (ha : above ≤ 3600001) : fits above l ↔ whole (hdD l) = true ∧ hdD l ≠ [48] ∧ uS (tlD l) ≠ 0 ∧ uS (tlD l) < above := by
  unfold fits
  constructor
  · rintro ⟨h1, h2, h3, h4⟩
    refine ⟨h1, fun h48 => h2 ⟨h48, ?_⟩, h3, h4⟩
    by_cases hab : above ≤ 3600000
    · exact .inl hab
    · right
      intro hr
      apply hz (by omega)
      have e := hd_tl l
      rw [h48] at e
      have e2 : tlD l = l.tail := by
        have e3 := congrArg List.tail e
        simpa using e3
      refine ⟨by rw [← e]; rfl, by rw [← e2]; exact h3, by rw [← e2]; exact hr⟩
  · rintro ⟨h1, h2, h3, h4⟩
    exact ⟨h1, fun h => h2 h.1, h3, h4⟩

/-- What the program's group answers: the length, the unit, the rest. -/
def gOK (l : List UInt8) : Prop := whole (hdD l) = true ∧ hdD l ≠ [48] ∧ uS (tlD l) ≠ 0
instance (l : List UInt8) : Decidable (gOK l) := by unfold gOK; infer_instance
def gL (l : List UInt8) : Nat := if gOK l then (if val (hdD l) ≤ 1099511627776 / uS (tlD l) then val (hdD l) * uS (tlD l) else 1099511627777) else 0
def gS (l : List UInt8) : Nat := if gOK l then uS (tlD l) else 0
def gR (l : List UInt8) : List UInt8 := if gOK l then uR (tlD l) else []
theorem gL_ok {l : List UInt8} (h : gOK l) (hv : val (hdD l) ≤ 1099511627776 / uS (tlD l)) : gL l = val (hdD l) * uS (tlD l) := by unfold gL; rw [if_pos h, if_pos hv]
theorem gL_big {l : List UInt8} (h : gOK l) (hv : ¬ val (hdD l) ≤ 1099511627776 / uS (tlD l)) : gL l = 1099511627777 := by unfold gL; rw [if_pos h, if_neg hv]
theorem gS_ok {l : List UInt8} (h : gOK l) : gS l = uS (tlD l) := if_pos h
theorem gR_ok {l : List UInt8} (h : gOK l) : gR l = uR (tlD l) := if_pos h
theorem g_no {l : List UInt8} (h : ¬ gOK l) : gL l = 0 ∧ gS l = 0 ∧ gR l = [] := ⟨if_neg h, if_neg h, if_neg h⟩
/-- The length is the group's, or both are greater than every duration. -/
theorem gL_near {l : List UInt8} (h : gOK l) : gL l ≤ 1099511627777 ∧ (gL l = val (hdD l) * uS (tlD l) ∨ gL l = 1099511627777 ∧ 1099511627776 < val (hdD l) * uS (tlD l)) := by
  have hp : 0 < uS (tlD l) := Nat.pos_of_ne_zero h.2.2
  by_cases hv : val (hdD l) ≤ 1099511627776 / uS (tlD l)
  · rw [gL_ok h hv]
    have := (Nat.le_div_iff_mul_le hp).1 hv
    exact ⟨by omega, .inl rfl⟩
  · rw [gL_big h hv]
    refine ⟨Nat.le_refl _, .inr ⟨rfl, ?_⟩⟩
    apply Nat.lt_of_not_le
    intro hle
    exact hv ((Nat.le_div_iff_mul_le hp).2 hle)
theorem gS_bd (l : List UInt8) : gS l ≤ 3600000 := by
  unfold gS; split
  · rcases uS_cases (tlD l) with h | h | h | h | h <;> omega
  · omega
/-- A round of the program's loop. -/
theorem round_no {above acc : Nat} {l : List UInt8} (hl : l ≠ []) (hz : above = 3600001 → ¬ zeroF l) (ha : above ≤ 3600001) (h : gS l = 0 ∨ above ≤ gS l) : run above acc l = none := by
  apply run_no hl
  rw [fits_pos hz ha]
  rintro ⟨h1, h2, h3, h4⟩
  have hg : gOK l := ⟨h1, h2, h3⟩
  rw [gS_ok hg] at h
  omega
theorem gOK_of_gS {l : List UInt8} (h : gS l ≠ 0) : gOK l := by
  by_cases hg : gOK l
  · exact hg
  · exact absurd (g_no hg).2.1 h
theorem round_go {above acc : Nat} {l : List UInt8} (hl : l ≠ []) (hz : above = 3600001 → ¬ zeroF l) (ha : above ≤ 3600001) (h : gS l ≠ 0) (h2 : gS l < above) : run above acc l = run (gS l) (acc + val (hdD l) * uS (tlD l)) (gR l) := by
  have hg := gOK_of_gS h
  rw [gS_ok hg] at h2 ⊢
  rw [gR_ok hg]
  exact run_go hl ((fits_pos hz ha).2 ⟨hg.1, hg.2.1, hg.2.2, h2⟩)
theorem gR_lt {l : List UInt8} (h : gS l ≠ 0) : (gR l).length < l.length := by
  have hg := gOK_of_gS h
  rw [gR_ok hg]; exact uR_lt l hg.2.2

/-- The canonical form. -/
def pt (n : Nat) (u : List UInt8) : List UInt8 := if n = 0 then [] else dgw 1 n ++ u
def durT (n : Nat) : List UInt8 := if n = 0 then [48, 115] else pt (n / 3600000) [104] ++ pt (n % 3600000 / 60000) [109] ++ pt (n % 60000 / 1000) [115] ++ pt (n % 1000) [109, 115]
def durTL (n : Int) : List UInt8 := if n < 0 ∨ 1099511627776 < n then [] else durT n.toNat
theorem pt_zero (u : List UInt8) : pt 0 u = [] := rfl
theorem pt_pos {n : Nat} (h : n ≠ 0) (u : List UInt8) : pt n u = dgw 1 n ++ u := if_neg h
/-- A text whose first byte, if there is one, is a digit. -/
def okT (r : List UInt8) : Prop := ∀ c, r.head? = some c → isDig c = true
theorem okT_nil : okT [] := fun c h => by simp at h
theorem okT_app {a b : List UInt8} (ha : okT a) (hb : okT b) : okT (a ++ b) := by
  match a, ha with
  | [], _ => simpa using hb
  | c :: r, ha => exact fun d hd => ha d (by simpa using hd)
theorem okT_pt (n : Nat) (u : List UInt8) : okT (pt n u) := by
  by_cases h : n = 0
  · subst h; exact okT_nil
  · rw [pt_pos h]
    have hd := digs_dgw 1 n
    match hx : dgw 1 n, dgw_ne n with
    | [], hne => exact absurd rfl hne
    | c :: r, _ =>
      intro d hdd
      rw [hx] at hd
      unfold digs at hd
      rw [List.all_cons, Bool.and_eq_true] at hd
      have : c = d := by simpa using hdd
      rw [← this]; exact hd.1
theorem ne115 {r : List UInt8} (h : okT r) : r.head? ≠ some 115 := fun hh => absurd (h 115 hh) (by decide)
theorem dgw_not48 {k : Nat} (h : k ≠ 0) : dgw 1 k ≠ [48] := fun e => by
  have := val_dgw 1 k
  rw [e] at this
  have h0 : val [48] = 0 := rfl
  omega
/-- A group ahead of the rest. -/
theorem run_pt {above acc k : Nat} {u r : List UInt8} (s : Nat) (hs : uS (u ++ r) = s) (hr : uR (u ++ r) = r) (h0 : s ≠ 0) (hlt : s < above) :
    ∃ above', s ≤ above' ∧ above' ≤ above ∧ run above acc (pt k u ++ r) = run above' (acc + k * s) r := by
  by_cases h : k = 0
  · subst h
    exact ⟨above, by omega, Nat.le_refl _, by rw [pt_zero, Nat.zero_mul]; rfl⟩
  · refine ⟨s, Nat.le_refl _, by omega, ?_⟩
    have hu : uS (u ++ r) ≠ 0 := by rw [hs]; exact h0
    obtain ⟨e1, e2⟩ := tw_unit hu (digs_dgw 1 k)
    rw [pt_pos h, List.append_assoc]
    have hne : dgw 1 k ++ (u ++ r) ≠ [] := fun e => dgw_ne k (List.append_eq_nil_iff.1 e).1
    rw [run_go hne ⟨by rw [e1]; exact whole_dgw k, by rw [e1]; exact fun hh => dgw_not48 h hh.1, by rw [e2]; exact hu, by rw [e2, hs]; exact hlt⟩, e1, e2, hs, hr, val_dgw]
theorem uS_104 (r : List UInt8) : uS ([104] ++ r) = 3600000 ∧ uR ([104] ++ r) = r := ⟨rfl, rfl⟩
theorem uS_115 (r : List UInt8) : uS ([115] ++ r) = 1000 ∧ uR ([115] ++ r) = r := ⟨rfl, rfl⟩
theorem uS_ms (r : List UInt8) : uS ([109, 115] ++ r) = 1 ∧ uR ([109, 115] ++ r) = r := ⟨rfl, rfl⟩
theorem uS_109 {r : List UInt8} (h : okT r) : uS ([109] ++ r) = 60000 ∧ uR ([109] ++ r) = r := by
  have := ne115 h
  have e : [109] ++ r = 109 :: r := rfl
  constructor
  · rw [e, uS_cons, if_neg (by decide), if_pos rfl, if_neg this]
  · rw [e, uR_cons, if_neg (by decide), if_pos rfl, if_neg this]
theorem pt_ne {n : Nat} (h : n ≠ 0) (u : List UInt8) : pt n u ≠ [] := by
  rw [pt_pos h]; exact fun e => dgw_ne n (List.append_eq_nil_iff.1 e).1
/-- Reading a canonical form gives the duration. -/
theorem durP_durT (n : Nat) : durP (durT n) = some n := by
  by_cases h : n = 0
  · subst h; exact durP_zero (by unfold zeroF; decide)
  · unfold durT durP
    rw [if_neg h]
    rw [if_neg (by
      intro e
      rw [List.append_eq_nil_iff, List.append_eq_nil_iff, List.append_eq_nil_iff] at e
      obtain ⟨⟨⟨e1, e2⟩, e3⟩, e4⟩ := e
      have f1 : n / 3600000 = 0 := Classical.byContradiction fun hh => pt_ne hh _ e1
      have f2 : n % 3600000 / 60000 = 0 := Classical.byContradiction fun hh => pt_ne hh _ e2
      have f3 : n % 60000 / 1000 = 0 := Classical.byContradiction fun hh => pt_ne hh _ e3
      have f4 : n % 1000 = 0 := Classical.byContradiction fun hh => pt_ne hh _ e4
      omega)]
    rw [List.append_assoc, List.append_assoc]
    have o3 : okT (pt (n % 60000 / 1000) [115] ++ pt (n % 1000) [109, 115]) := okT_app (okT_pt _ _) (okT_pt _ _)
    obtain ⟨a1, l1, g1, e1⟩ := run_pt (above := 3600001) (acc := 0) (k := n / 3600000) (u := [104]) (r := pt (n % 3600000 / 60000) [109] ++ (pt (n % 60000 / 1000) [115] ++ pt (n % 1000) [109, 115])) 3600000 (uS_104 _).1 (uS_104 _).2 (by omega) (by omega)
    obtain ⟨a2, l2, g2, e2⟩ := run_pt (above := a1) (acc := 0 + n / 3600000 * 3600000) (k := n % 3600000 / 60000) (u := [109]) 60000 (uS_109 o3).1 (uS_109 o3).2 (by omega) (by omega)
    obtain ⟨a3, l3, g3, e3⟩ := run_pt (above := a2) (acc := 0 + n / 3600000 * 3600000 + n % 3600000 / 60000 * 60000) (k := n % 60000 / 1000) (u := [115]) (r := pt (n % 1000) [109, 115]) 1000 (uS_115 _).1 (uS_115 _).2 (by omega) (by omega)
    obtain ⟨a4, l4, g4, e4⟩ := run_pt (above := a3) (acc := 0 + n / 3600000 * 3600000 + n % 3600000 / 60000 * 60000 + n % 60000 / 1000 * 1000) (k := n % 1000) (u := [109, 115]) (r := []) 1 (uS_ms _).1 (uS_ms _).2 (by omega) (by omega)
    rw [List.append_nil] at e4
    rw [e1, e2, e3, e4, run_nil]
    congr 1
    omega
theorem dur_back {n : Int} (h0 : 0 ≤ n) (h1 : n ≤ 1099511627776) : durN (durTL n) = n ∧ durE (durTL n) = 0 := by
  obtain ⟨m, rfl⟩ := Int.eq_ofNat_of_zero_le h0
  have hT : durTL (m : Int) = durT m := by unfold durTL; rw [if_neg (by omega)]; rfl
  have := fin_ok (t := m) (by omega)
  unfold durN durE
  rw [hT, durP_durT]
  exact this
theorem dur_none {n : Int} (h : n < 0 ∨ 1099511627776 < n) : durTL n = [] := if_pos h
theorem dur_nil : durN [] = 0 ∧ durE [] = 3 := ⟨rfl, rfl⟩
theorem dur_inj {n m : Int} (h0 : 0 ≤ n) (h1 : n ≤ 1099511627776) (g0 : 0 ≤ m) (g1 : m ≤ 1099511627776) (h : durTL n = durTL m) : n = m := by
  rw [← (dur_back h0 h1).1, ← (dur_back g0 g1).1, h]
theorem durN_bd (l : List UInt8) : 0 ≤ durN l ∧ durN l ≤ 1099511627776 := by
  unfold durN finN
  split
  · omega
  · split <;> omega
theorem durN_err {l : List UInt8} (h : durE l ≠ 0) : durN l = 0 := by
  unfold durE finE at h
  unfold durN finN
  revert h
  cases durP l with
  | none => intro _; rfl
  | some t =>
    intro h
    by_cases ht : t ≤ 1099511627776
    · exact absurd (if_pos ht) h
    · exact if_neg ht
theorem durE_cases (l : List UInt8) : durE l = 0 ∨ durE l = 3 ∨ durE l = 9 := by
  unfold durE finE
  split
  · right; left; rfl
  · split
    · left; rfl
    · right; right; rfl
end Go.Proofs.YtegljoikdfjepaaDoor
