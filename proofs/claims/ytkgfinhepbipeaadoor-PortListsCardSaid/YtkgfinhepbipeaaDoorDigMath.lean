/- Plain mathematics of decimal texts: lists of bytes and numbers; no program is named here. -/
namespace Go.Proofs.YtkgfinhepbipeaaDoor.Dg

def isDig (c : UInt8) : Bool := decide (48 ≤ c.toNat) && decide (c.toNat ≤ 57)
def dv (c : UInt8) : Nat := c.toNat - 48
def val (l : List UInt8) : Nat := l.foldl (fun n c => n * 10 + dv c) 0
def whole (l : List UInt8) : Bool := !l.isEmpty && (decide (l.length ≤ 1) || l.headD 0 != 48) && l.all isDig

theorem val_snoc (l : List UInt8) (c : UInt8) : val (l ++ [c]) = val l * 10 + dv c := by simp [val]
theorem take_snoc (l : List UInt8) (k : Nat) (h : k < l.length) : l.take (k + 1) = l.take k ++ [l[k]] := by
  rw [List.take_succ_eq_append_getElem h]
theorem val_take (l : List UInt8) (k : Nat) (h : k < l.length) : val (l.take (k + 1)) = val (l.take k) * 10 + dv l[k] := by
  rw [take_snoc l k h, val_snoc]
theorem foldl_ge (l : List UInt8) : ∀ n : Nat, n ≤ l.foldl (fun n c => n * 10 + dv c) n := by
  induction l with
  | nil => intro n; exact Nat.le_refl n
  | cons c r ih => intro n; exact Nat.le_trans (by show n ≤ n * 10 + dv c; omega) (ih _)
theorem val_append (a b : List UInt8) : val (a ++ b) = b.foldl (fun n c => n * 10 + dv c) (val a) := by simp [val]
theorem val_take_le (l : List UInt8) (k : Nat) : val (l.take k) ≤ val l := by
  have h := foldl_ge (l.drop k) (val (l.take k))
  rw [← val_append, List.take_append_drop] at h; exact h
theorem dv_le {c : UInt8} (h : isDig c = true) : dv c ≤ 9 ∧ 48 ≤ c.toNat ∧ c.toNat ≤ 57 := by
  simp [isDig] at h; unfold dv; omega
theorem all_get {l : List UInt8} {p : UInt8 → Bool} (h : l.all p = true) (k : Nat) (hk : k < l.length) : p l[k] = true := by
  rw [List.all_eq_true] at h; exact h _ (List.getElem_mem hk)
theorem all_take_succ {l : List UInt8} {p : UInt8 → Bool} {k : Nat} (hk : k < l.length) (h : (l.take k).all p = true) (hp : p l[k] = true) : (l.take (k+1)).all p = true := by
  rw [take_snoc l k hk, List.all_append, h]; simp [hp]
theorem not_all {l : List UInt8} {p : UInt8 → Bool} {k : Nat} (hk : k < l.length) (hp : p l[k] = false) : l.all p = false := by
  rw [List.all_eq_false]; exact ⟨_, List.getElem_mem hk, by simp [hp]⟩

/-- Has the text no byte but digits? -/
def digs (l : List UInt8) : Bool := l.all isDig
theorem digs_take_succ {l : List UInt8} {k : Nat} (hk : k < l.length) (h : digs (l.take k) = true) (hp : isDig l[k] = true) : digs (l.take (k+1)) = true := all_take_succ hk h hp
theorem digs_get {l : List UInt8} (h : digs l = true) (k : Nat) (hk : k < l.length) : isDig l[k] = true := all_get h k hk
theorem digs_not {l : List UInt8} {k : Nat} (hk : k < l.length) (hp : isDig l[k] = false) : digs l = false := not_all hk hp
theorem digs_all {l : List UInt8} {k : Nat} (hk : l.length ≤ k) (h : digs (l.take k) = true) : digs l = true := by rwa [List.take_of_length_le hk] at h
theorem isDig_of {c : UInt8} (h1 : 48 ≤ (c.toNat : Int)) (h2 : (c.toNat : Int) ≤ 57) : isDig c = true := by simp [isDig]; omega
theorem isDig_lo {c : UInt8} (h1 : (c.toNat : Int) < 48) : isDig c = false := by simp [isDig]; omega
theorem isDig_hi {c : UInt8} (h1 : 57 < (c.toNat : Int)) : isDig c = false := by simp [isDig]; omega

/-- The value of digits, where it is at most 'most'; and the number of the error. -/
def valN (l : List UInt8) (most : Int) : Int := if (val l : Int) ≤ most then (val l : Int) else 0
def valE (l : List UInt8) (most : Int) : Int := if (val l : Int) ≤ most then 0 else 9
theorem valN_ok {l : List UInt8} {most : Int} (h : (val l : Int) ≤ most) : valN l most = val l := if_pos h
theorem valE_ok {l : List UInt8} {most : Int} (h : (val l : Int) ≤ most) : valE l most = 0 := if_pos h
theorem valN_big {l : List UInt8} {most : Int} (h : most < (val l : Int)) : valN l most = 0 := if_neg (by omega)
theorem valE_big {l : List UInt8} {most : Int} (h : most < (val l : Int)) : valE l most = 9 := if_neg (by omega)
theorem val_big {l : List UInt8} {k : Nat} {most : Int} (h : most < (val (l.take k) : Int)) : most < (val l : Int) := by
  have := val_take_le l k; omega

theorem whole_zero : whole [48] = true := by decide
theorem whole_nil : whole [] = false := by decide
/-- A text of a whole number in the order of digit's own tests: 'it is 0, or it isn't empty, begins with no 0 and has only digits'. -/
theorem whole_eq (l : List UInt8) : whole l = (decide (l = [48]) || (decide (l ≠ []) && (l.headD 0 != 48 && digs l))) := by
  unfold whole digs
  match l with
  | [] => rfl
  | [c] =>
    by_cases h : c = 48
    · subst h; decide
    · simp [h]
  | c :: d :: r => simp
theorem whole_head {l : List UInt8} (h : l ≠ [48]) (h2 : l.headD 0 = 48) : whole l = false := by
  rw [whole_eq, h2]; simp [h]
theorem whole_digs {l : List UInt8} (h : l ≠ [48]) (h1 : l ≠ []) (h2 : l.headD 0 ≠ 48) : whole l = digs l := by
  have h3 : (l.headD 0 != 48) = true := by rw [bne_iff_ne]; exact h2
  rw [whole_eq, h3]; simp [h, h1]
theorem digs_of_whole {l : List UInt8} (h : whole l = true) : digs l = true := by
  unfold whole at h; unfold digs; simp only [Bool.and_eq_true] at h; exact h.2

/-- What stands behind the point: one to three digits, the last no 0. -/
def frac (l : List UInt8) : Bool := !l.isEmpty && (decide (l.length ≤ 3) && (l.getLastD 48 != 48 && digs l))

theorem frac_long {l : List UInt8} (h : 3 < l.length) : frac l = false := by
  have : decide (l.length ≤ 3) = false := by simp; omega
  unfold frac; rw [this]; simp
theorem frac_last {l : List UInt8} (h : l.getLastD 48 = 48) : frac l = false := by
  have : (l.getLastD 48 != 48) = false := by rw [h]; rfl
  unfold frac; rw [this]; simp
theorem frac_digs {l : List UInt8} (h1 : l ≠ []) (h2 : l.length ≤ 3) (h3 : l.getLastD 48 ≠ 48) : frac l = digs l := by
  have e1 : l.isEmpty = false := by rw [List.isEmpty_eq_false_iff]; exact h1
  have e2 : decide (l.length ≤ 3) = true := by simpa using h2
  have e3 : (l.getLastD 48 != 48) = true := by rw [bne_iff_ne]; exact h3
  unfold frac; rw [e1, e2, e3]; simp
theorem getLastD_eq {l : List UInt8} (h : 0 < l.length) : l.getLastD 48 = l[l.length - 1] := by
  rw [List.getLastD_eq_getLast?, List.getLast?_eq_getElem?, List.getElem?_eq_getElem (by omega)]; rfl

/-- A text before its first point, and what stands behind that. -/
def ptA (l : List UInt8) : List UInt8 := l.takeWhile (· != 46)
def ptB (l : List UInt8) : List UInt8 := (l.dropWhile (· != 46)).drop 1
def ptF (l : List UInt8) : Bool := l.contains 46
theorem tw_all {p : UInt8 → Bool} : ∀ {l : List UInt8}, (∀ x ∈ l, p x = true) → l.takeWhile p = l ∧ l.dropWhile p = []
  | [], _ => ⟨rfl, rfl⟩
  | a :: r, h => by
    have ⟨h1, h2⟩ := tw_all (l := r) fun x hx => h x (List.mem_cons_of_mem _ hx)
    have ha := h a (List.mem_cons_self ..)
    simp [ha, h1, h2]
theorem tw_split {p : UInt8 → Bool} {c : UInt8} {b : List UInt8} (hc : p c = false) : ∀ {a : List UInt8}, (∀ x ∈ a, p x = true) → (a ++ c :: b).takeWhile p = a ∧ (a ++ c :: b).dropWhile p = c :: b
  | [], _ => by simp [hc]
  | d :: r, h => by
    have ⟨h1, h2⟩ := tw_split (a := r) (b := b) hc fun x hx => h x (List.mem_cons_of_mem _ hx)
    have ha := h d (List.mem_cons_self ..)
    simp [ha, h1, h2]
theorem ne46 {a : List UInt8} (h : 46 ∉ a) : ∀ x ∈ a, (x != 46) = true := by
  intro x hx; rw [bne_iff_ne]; rintro rfl; exact h hx
theorem pt_no {l : List UInt8} (h : 46 ∉ l) : ptA l = l ∧ ptB l = [] ∧ ptF l = false := by
  have ⟨h1, h2⟩ := tw_all (ne46 h)
  refine ⟨h1, ?_, ?_⟩
  · unfold ptB; rw [h2]; rfl
  · unfold ptF; simpa using h
theorem pt_yes {a b : List UInt8} (h : 46 ∉ a) : ptA (a ++ 46 :: b) = a ∧ ptB (a ++ 46 :: b) = b ∧ ptF (a ++ 46 :: b) = true := by
  have ⟨h1, h2⟩ := tw_split (p := (· != 46)) (c := 46) (b := b) rfl (ne46 h)
  refine ⟨h1, ?_, ?_⟩
  · unfold ptB; rw [h2]; rfl
  · unfold ptF; simp
theorem pt_split {l : List UInt8} (h : 46 ∈ l) : ∃ a b, 46 ∉ a ∧ l = a ++ 46 :: b := by
  induction l with
  | nil => simp at h
  | cons c r ih =>
    by_cases hc : c = 46
    · exact ⟨[], r, by simp, by simp [hc]⟩
    · obtain ⟨a, b, h1, h2⟩ := ih (by
        rcases List.mem_cons.1 h with h | h
        · exact absurd h.symm hc
        · exact h)
      exact ⟨c :: a, b, by
        intro hm
        rcases List.mem_cons.1 hm with hm | hm
        · exact hc hm.symm
        · exact h1 hm, by rw [h2]; rfl⟩

/-- Is the text the form of a number of thousandths? And the digits of that number. -/
def mOk (l : List UInt8) : Bool := whole (ptA l) && (!ptF l || frac (ptB l))
def mD (l : List UInt8) : List UInt8 := ptA l ++ ptB l ++ List.replicate (3 - (ptB l).length) 48
def milliN (l : List UInt8) : Int := if mOk l then valN (mD l) 9007199254740992 else 0
def milliE (l : List UInt8) : Int := if mOk l then valE (mD l) 9007199254740992 else 3
theorem mOk_no {l : List UInt8} (h : 46 ∉ l) : mOk l = whole l ∧ mD l = l ++ List.replicate 3 48 := by
  obtain ⟨h1, h2, h3⟩ := pt_no h
  unfold mOk mD; rw [h1, h2, h3]; simp
theorem mOk_yes {a b : List UInt8} (h : 46 ∉ a) : mOk (a ++ 46 :: b) = (whole a && frac b) ∧ mD (a ++ 46 :: b) = a ++ b ++ List.replicate (3 - b.length) 48 := by
  obtain ⟨h1, h2, h3⟩ := pt_yes (b := b) h
  unfold mOk mD; rw [h1, h2, h3]; simp
theorem digs_append {a b : List UInt8} (h1 : digs a = true) (h2 : digs b = true) : digs (a ++ b) = true := by
  unfold digs at *; rw [List.all_append, h1, h2]; rfl
theorem digs_zeros (n : Nat) : digs (List.replicate n 48) = true := by
  unfold digs; rw [List.all_eq_true]; intro x hx; rw [List.eq_of_mem_replicate hx]; rfl
theorem digs_of_frac {l : List UInt8} (h : frac l = true) : digs l = true ∧ l.length ≤ 3 := by
  unfold frac at h; simp only [Bool.and_eq_true, decide_eq_true_eq] at h; exact ⟨h.2.2.2, h.2.1⟩

theorem foldl_low (l : List UInt8) : ∀ n : Nat, n * 10 ^ l.length ≤ l.foldl (fun n c => n * 10 + dv c) n := by
  induction l with
  | nil => intro n; simp
  | cons c r ih =>
    intro n
    refine Nat.le_trans ?_ (ih (n * 10 + dv c))
    rw [List.length_cons, Nat.pow_succ, Nat.mul_comm (10 ^ r.length) 10, ← Nat.mul_assoc]
    exact Nat.mul_le_mul_right _ (by omega)
theorem val_lt {l : List UInt8} (h : digs l = true) : val l < 10 ^ l.length := by
  suffices H : ∀ n, l.foldl (fun n c => n * 10 + dv c) n < (n + 1) * 10 ^ l.length by
    have := H 0; simpa [val] using this
  induction l with
  | nil => intro n; simp
  | cons c r ih =>
    intro n
    unfold digs at h
    rw [List.all_cons, Bool.and_eq_true] at h
    have hd := (dv_le h.1).1
    refine Nat.lt_of_lt_of_le (ih h.2 (n * 10 + dv c)) ?_
    rw [List.length_cons, Nat.pow_succ, Nat.mul_comm (10 ^ r.length) 10, ← Nat.mul_assoc]
    exact Nat.mul_le_mul_right _ (by omega)
theorem digs_take {l : List UInt8} (h : digs l = true) (k : Nat) : digs (l.take k) = true := by
  unfold digs at *
  rw [List.all_eq_true] at *
  intro x hx; exact h x (List.mem_of_mem_take hx)
theorem val_take_lt {l : List UInt8} (h : digs l = true) (k : Nat) : val (l.take k) < 10 ^ k :=
  Nat.lt_of_lt_of_le (val_lt (digs_take h k)) (Nat.pow_le_pow_right (by omega) (List.length_take_le ..))
/-- A whole number of many digits is great. -/
theorem val_long {l : List UInt8} (h : whole l = true) (n : Nat) (hl : n + 1 < l.length) : 10 ^ (n + 1) ≤ val l := by
  match l, h, hl with
  | [], _, hl => simp at hl
  | c :: r, h, hl =>
    have hd : dv c ≠ 0 := by
      unfold whole at h
      simp only [List.isEmpty_cons, Bool.not_false, Bool.true_and, Bool.and_eq_true, Bool.or_eq_true, decide_eq_true_eq, List.headD_cons, List.all_cons, bne_iff_ne] at h
      rcases h.1 with h1 | h1
      · rw [List.length_cons] at h1 hl; omega
      · intro e
        have h2 := dv_le h.2.1
        apply h1
        apply UInt8.toNat_inj.1
        unfold dv at e
        show _ = 48
        omega
    have h3 := foldl_low r (dv c)
    have h4 : val (c :: r) = r.foldl (fun n c => n * 10 + dv c) (dv c) := by simp [val]
    rw [h4]
    refine Nat.le_trans ?_ h3
    rw [List.length_cons] at hl
    calc 10 ^ (n + 1) ≤ 10 ^ r.length := Nat.pow_le_pow_right (by omega) (by omega)
      _ ≤ dv c * 10 ^ r.length := Nat.le_mul_of_pos_left _ (by omega)
end Go.Proofs.YtkgfinhepbipeaaDoor.Dg
