/- Plain mathematics: a reading of a text that looks for no fault, and the text of what was read, tell the port of a text. -/
import Derived.Test.YtkgfinhepbipeaaDoorPrtMath
namespace Go.Proofs.YtkgfinhepbipeaaDoor
namespace P16
open Nw Dg
set_option linter.unusedVariables false
/-- At the last colon: what stands ahead, and behind. -/
def lastC : L8 → Option (L8 × L8)
  | [] => none
  | x :: r => match lastC r with
    | some (a, b) => some (x :: a, b)
    | none => if x = 58 then some ([], r) else none
theorem lastC_none : ∀ {l : L8}, (58 : UInt8) ∉ l → lastC l = none
  | [], _ => rfl
  | x :: r, h => by
    rw [lastC, lastC_none (fun e => h (List.mem_cons_of_mem _ e))]
    exact if_neg (fun e => h (by rw [e]; exact List.mem_cons_self ..))
theorem lastC_at : ∀ (a : L8) {b : L8}, (58 : UInt8) ∉ b → lastC (a ++ 58 :: b) = some (a, b)
  | [], b, h => by rw [List.nil_append, lastC, lastC_none h]; rfl
  | x :: a, b, h => by rw [List.cons_append, lastC, lastC_at a h]
theorem lastC_inv : ∀ {l a b : L8}, lastC l = some (a, b) → l = a ++ 58 :: b ∧ (58 : UInt8) ∉ b
  | [], a, b, h => by cases h
  | x :: r, a, b, h => by
    rw [lastC] at h
    cases hr : lastC r with
    | some q =>
      obtain ⟨a', b'⟩ := q
      rw [hr] at h
      obtain ⟨h1, h2⟩ := lastC_inv hr
      cases h
      exact ⟨by rw [h1]; rfl, h2⟩
    | none =>
      rw [hr] at h
      dsimp only at h
      split at h
      · rename_i hx
        cases h
        subst hx
        refine ⟨rfl, fun hm => ?_⟩
        have key : ∀ {l : L8}, (58 : UInt8) ∈ l → lastC l ≠ none := by
          intro l
          induction l with
          | nil => intro hm; cases hm
          | cons y t ih =>
            intro hm e
            rw [lastC] at e
            cases ht : lastC t with
            | some q => rw [ht] at e; cases e
            | none =>
              rw [ht] at e
              rcases List.mem_cons.1 hm with rfl | hm
              · cases e
              · exact ih hm ht
        exact key hm hr
      · cases h
theorem lastC_no {l : L8} (h : lastC l = none) : (58 : UInt8) ∉ l := fun hm => by
  induction l with
  | nil => cases hm
  | cons y t ih =>
    rw [lastC] at h
    cases ht : lastC t with
    | some q => rw [ht] at h; cases h
    | none =>
      rw [ht] at h
      rcases List.mem_cons.1 hm with rfl | hm
      · cases h
      · exact ih ht hm
/-- .. with no colon all stands behind. -/
def cl (l : L8) : L8 × L8 := match lastC l with
  | some q => q
  | none => ([], l)
theorem cl_at {a b : L8} (h : (58 : UInt8) ∉ b) : cl (a ++ 58 :: b) = (a, b) := by unfold cl; rw [lastC_at a h]
theorem cl_no {b : L8} (h : (58 : UInt8) ∉ b) : cl b = ([], b) := by unfold cl; rw [lastC_none h]
/-- At the first slash. -/
def firstS : L8 → Option (L8 × L8)
  | [] => none
  | x :: r => if x = 47 then some ([], r) else match firstS r with
    | some (a, b) => some (x :: a, b)
    | none => none
theorem firstS_none : ∀ {l : L8}, (47 : UInt8) ∉ l → firstS l = none
  | [], _ => rfl
  | x :: r, h => by
    rw [firstS, if_neg (fun e => h (by rw [e]; exact List.mem_cons_self ..)), firstS_none (fun e => h (List.mem_cons_of_mem _ e))]
theorem firstS_at : ∀ {a : L8} (b : L8), (47 : UInt8) ∉ a → firstS (a ++ 47 :: b) = some (a, b)
  | [], b, _ => by rw [List.nil_append, firstS, if_pos rfl]
  | x :: a, b, h => by
    rw [List.cons_append, firstS, if_neg (fun e => h (by rw [e]; exact List.mem_cons_self ..)), firstS_at b (fun e => h (List.mem_cons_of_mem _ e))]
theorem firstS_inv : ∀ {l a b : L8}, firstS l = some (a, b) → l = a ++ 47 :: b ∧ (47 : UInt8) ∉ a
  | [], a, b, h => by cases h
  | x :: r, a, b, h => by
    rw [firstS] at h
    split at h
    · rename_i hx
      cases h
      exact ⟨by rw [hx]; rfl, by simp⟩
    · rename_i hx
      cases hr : firstS r with
      | none => rw [hr] at h; cases h
      | some q =>
        obtain ⟨a', b'⟩ := q
        rw [hr] at h
        obtain ⟨h1, h2⟩ := firstS_inv hr
        cases h
        refine ⟨by rw [h1]; rfl, ?_⟩
        rw [List.mem_cons, not_or]
        exact ⟨fun e => hx e.symm, h2⟩
theorem firstS_no {l : L8} (h : firstS l = none) : (47 : UInt8) ∉ l := fun hm => by
  induction l with
  | nil => cases hm
  | cons y t ih =>
    rw [firstS] at h
    split at h
    · cases h
    · rename_i hy
      rcases List.mem_cons.1 hm with rfl | hm
      · exact hy rfl
      · cases ht : firstS t with
        | none => exact ih ht hm
        | some q => rw [ht] at h; cases h
def sl (s : L8) : L8 × L8 := match firstS s with
  | some q => q
  | none => (s, tcpL)
theorem sl_at {a : L8} (b : L8) (h : (47 : UInt8) ∉ a) : sl (a ++ 47 :: b) = (a, b) := by unfold sl; rw [firstS_at b h]
theorem sl_no {a : L8} (h : (47 : UInt8) ∉ a) : sl a = (a, tcpL) := by unfold sl; rw [firstS_none h]
/-- What is read. -/
def readP (s : L8) : Po := ⟨(cl (cl (sl s).1).1).1, countN (cl (cl (sl s).1).1).2 65535, countN (cl (sl s).1).2 65535, (sl s).2⟩
theorem count_nil : countN ([] : L8) 65535 = 0 := by decide
theorem read_body {p : Po} (h : rightB p = true) {s : L8} (hs : sl s = (bodyL p, p.proto)) : readP s = p := by
  obtain ⟨h1, h2, h3, h4, h5, h6⟩ := right_facts h
  have d58 : isDig 58 = false := by decide
  have hin := text_no (n := p.inn) (by omega) d58
  have hci := (text_count (n := p.inn) (m := 65535) (by omega) h2).2
  unfold readP
  rw [hs]
  dsimp only
  unfold bodyL
  obtain ⟨ho, o, i, pr⟩ := p
  dsimp only at *
  by_cases hh : ho = []
  · subst hh
    rw [if_pos rfl, List.nil_append, if_pos rfl]
    by_cases hp : 0 < o
    · rw [if_pos hp, List.append_assoc, List.singleton_append, cl_at hin, cl_no (text_no (by omega) d58), hci]
      dsimp only
      rw [(okO_text hp h4).2]
    · have h0 : o = 0 := by omega
      subst h0
      rw [if_neg hp, List.nil_append, cl_no hin, hci]
      rfl
  · have hA : addrB ho = true := h6.resolve_left hh
    have hno := addr_no hA (c := 58) (by decide) d58
    rw [if_neg hh, if_neg hh]
    by_cases hp : 0 < o
    · have e : (ho ++ [58] ++ (if 0 < o then textL o ++ [58] else [58]) ++ textL i) = (ho ++ 58 :: textL o) ++ 58 :: textL i := by rw [if_pos hp]; simp
      rw [e, cl_at hin, cl_at (text_no (by omega) d58), hci]
      dsimp only
      rw [(okO_text hp h4).2]
    · have h0 : o = 0 := by omega
      subst h0
      have e : (ho ++ [58] ++ (if 0 < (0 : Int) then textL 0 ++ [58] else [58]) ++ textL i) = (ho ++ 58 :: []) ++ 58 :: textL i := by rw [if_neg hp]; simp
      rw [e, cl_at hin, cl_at (by simp), hci]
      dsimp only
      rw [count_nil]
/-- The pieces put together again. -/
def joinC (c : UInt8) : List L8 → L8
  | [] => []
  | [x] => x
  | x :: y :: r => x ++ c :: joinC c (y :: r)
theorem join_cutA (c : UInt8) : ∀ (l acc : L8), joinC c (cutA c acc l) = acc ++ l
  | [], acc => by rw [cutA]; simp [joinC]
  | x :: r, acc => by
    rw [cutA]
    split
    · rename_i hx
      have ih := join_cutA c r []
      cases hc : cutA c [] r with
      | nil => exact absurd hc (cutA_ne c r [])
      | cons y t =>
        rw [hc] at ih
        rw [joinC, ih, hx]
        rfl
    · rw [join_cutA c r (acc ++ [x])]; simp
theorem join_cut (c : UInt8) (l : L8) : joinC c (cutL c l) = l := by unfold cutL; rw [join_cutA]; rfl
theorem count_text {i : L8} {m : Int} (hm : 0 ≤ m) (h : okN i m = true) : textL (countN i m) = i ∧ 0 ≤ countN i m ∧ countN i m ≤ m := by
  unfold okN countE at h
  rw [if_neg (by omega)] at h
  split at h
  · rename_i hw
    unfold countN
    rw [if_neg (by omega), if_pos hw]
    by_cases hv : (val i : Int) ≤ m
    · rw [valN_ok hv]
      refine ⟨?_, by omega, hv⟩
      unfold textL
      rw [if_neg (by omega)]
      show dgw 1 (val i : Int).natAbs = i
      rw [Int.natAbs_natCast]
      exact dgw_of_whole hw
    · unfold valE at h
      rw [if_neg hv] at h
      cases h
  · cases h
theorem finP_is {h i pr : L8} {o : Int} {p : Po} (e : finP h o i pr = some p) : p = ⟨h, o, countN i 65535, pr⟩ ∧ textL (countN i 65535) = i := by
  unfold finP at e
  split at e
  · rename_i hh
    cases e
    exact ⟨rfl, (count_text (by omega) hh.1).1⟩
  · cases e
theorem okO_is {o : L8} (h : okO o = true) : textL (countN o 65535) = o ∧ 0 < countN o 65535 := by
  unfold okO at h
  rw [Bool.and_eq_true, decide_eq_true_eq] at h
  obtain ⟨h1, h2, h3⟩ := count_text (by omega) h.1
  exact ⟨h1, by omega⟩
/-- What is parsed is the body's text. -/
theorem prsL_body {pr b : L8} {p : Po} (e : prsL pr (cutL 58 b) = some p) : b = bodyL p ∧ p.proto = pr := by
  have hj := join_cut 58 b
  unfold prsL at e
  split at e
  · rename_i i hc
    rw [hc] at hj
    obtain ⟨rfl, ht⟩ := finP_is e
    refine ⟨?_, rfl⟩
    unfold bodyL
    dsimp only
    rw [if_pos rfl, if_neg (by omega), if_pos rfl, ht]
    exact hj.symm
  · rename_i o i hc
    rw [hc] at hj
    split at e
    · rename_i ho
      obtain ⟨rfl, ht⟩ := finP_is e
      obtain ⟨k1, k2⟩ := okO_is ho
      refine ⟨?_, rfl⟩
      unfold bodyL
      dsimp only
      rw [if_pos rfl, if_pos k2, ht, k1, ← hj]
      simp [joinC]
    · cases e
  · rename_i h o i hc
    rw [hc] at hj
    split at e
    · cases e
    · rename_i hh
      split at e
      · rename_i ho
        obtain ⟨rfl, ht⟩ := finP_is e
        refine ⟨?_, rfl⟩
        unfold bodyL
        dsimp only
        rw [if_neg hh, if_neg (by omega), if_neg hh, ht, ← hj, ho]
        simp [joinC]
      · split at e
        · rename_i ho
          obtain ⟨rfl, ht⟩ := finP_is e
          obtain ⟨k1, k2⟩ := okO_is ho
          refine ⟨?_, rfl⟩
          unfold bodyL
          dsimp only
          rw [if_neg hh, if_pos k2, ht, k1, ← hj]
          simp [joinC]
        · cases e
  · cases e
theorem body_ne {p : Po} (h : rightB p = true) : bodyL p ≠ [] := by
  obtain ⟨h1, _⟩ := right_facts h
  unfold bodyL
  intro e
  exact text_ne (n := p.inn) (by omega) (List.append_eq_nil_iff.1 e).2
theorem suf_tcp2 {b : L8} (hb : b ≠ []) : sufP (b ++ 47 :: tcpL) = (tcpL, b) := by
  have hl : (b ++ 47 :: tcpL).length - 4 = b.length := by rw [List.length_append]; rfl
  have hlt : 4 < (b ++ 47 :: tcpL).length := by
    rw [List.length_append]
    have := List.length_pos_iff.2 hb
    show 4 < b.length + 4; omega
  unfold sufP
  rw [hl, List.drop_left, List.take_left, if_pos ⟨hlt, rfl⟩]
theorem suf_inv (s : L8) : ((sufP s).1 = tcpL ∧ s = (sufP s).2 ++ 47 :: tcpL) ∨ ((sufP s).1 = udpL ∧ s = (sufP s).2 ++ 47 :: udpL) ∨ ((sufP s).1 = tcpL ∧ s = (sufP s).2) := by
  unfold sufP
  split
  · rename_i h
    left
    refine ⟨rfl, ?_⟩
    dsimp only
    rw [← h.2, List.take_append_drop]
  · split
    · rename_i h
      right; left
      refine ⟨rfl, ?_⟩
      dsimp only
      rw [← h.2, List.take_append_drop]
    · right; right
      exact ⟨rfl, rfl⟩
theorem body_no47 {p : Po} (h : rightB p = true) : (47 : UInt8) ∉ bodyL p := body_no h (by decide) (by decide) (by decide)
theorem textP_right {p : Po} (h : rightB p = true) : textP p = bodyL p ++ (if p.proto = udpL then 47 :: udpL else []) := by unfold textP; rw [if_pos h]
theorem textP_nil {p : Po} (h : textP p ≠ []) : rightB p = true := by
  cases hr : rightB p with
  | true => rfl
  | false => exact absurd (by unfold textP; rw [hr]; rfl) h
/-- The port of a text, by reading it without a look at faults. -/
theorem parse_is (s : L8) : (if textP (readP s) = [] ∨ (s ≠ textP (readP s) ∧ s ≠ textP (readP s) ++ 47 :: tcpL) then none else some (readP s)) = prsP s := by
  cases hp : prsP s with
  | some p =>
    have hr := prs_right hp
    have hb : prsL (sufP s).1 (cutL 58 (sufP s).2) = some p := hp
    obtain ⟨e1, e2⟩ := prsL_body hb
    have n47 := body_no47 hr
    have hne := body_ne hr
    have ht := textP_right hr
    rcases suf_inv s with ⟨k1, k2⟩ | ⟨k1, k2⟩ | ⟨k1, k2⟩
    · rw [k1] at e2
      rw [e1] at k2
      have hq : readP s = p := read_body hr (by rw [k2, sl_at _ n47, e2])
      rw [if_neg (by rw [e2]; decide), List.append_nil] at ht
      rw [hq, ht, if_neg]
      rintro (e | e)
      · exact hne e
      · exact e.2 k2
    · rw [k1] at e2
      rw [e1] at k2
      have hq : readP s = p := read_body hr (by rw [k2, sl_at _ n47, e2])
      rw [if_pos e2] at ht
      rw [hq, ht, if_neg]
      rintro (e | e)
      · exact hne (List.append_eq_nil_iff.1 e).1
      · exact e.1 k2
    · rw [k1] at e2
      rw [e1] at k2
      have hq : readP s = p := read_body hr (by rw [k2, sl_no n47, e2])
      rw [if_neg (by rw [e2]; decide), List.append_nil] at ht
      rw [hq, ht, if_neg]
      rintro (e | e)
      · exact hne e
      · exact e.1 k2
  | none =>
    refine if_pos ?_
    refine Classical.byContradiction fun hn => ?_
    rw [not_or] at hn
    obtain ⟨n1, n2⟩ := hn
    obtain ⟨q, hq⟩ : ∃ q, readP s = q := ⟨_, rfl⟩
    rw [hq] at n1 n2
    have hr := textP_nil n1
    have n47 := body_no47 hr
    have ht := textP_right hr
    by_cases h1 : s = textP q
    · rw [h1, prs_text hr] at hp; cases hp
    have h2 : s = textP q ++ 47 :: tcpL := Classical.not_not.1 fun h2 => n2 ⟨h1, h2⟩
    rcases (right_facts hr).2.2.2.2.1 with e | e
    · rw [if_neg (by rw [e]; decide), List.append_nil] at ht
      rw [ht] at h2
      have hb := prs_body hr
      have : prsP s = some q := by
        unfold prsP
        rw [h2, suf_tcp2 (body_ne hr)]
        rw [e] at hb
        exact hb
      rw [this] at hp; cases hp
    · rw [if_pos e] at ht
      rw [ht, List.append_assoc, List.cons_append] at h2
      have h3 : (readP s).proto = udpL ++ 47 :: tcpL := by
        show (sl s).2 = _
        rw [h2, sl_at _ n47]
      rw [hq, e] at h3
      cases h3
end P16
end Go.Proofs.YtkgfinhepbipeaaDoor
