/- Plain mathematics of published ports: addresses, texts, parsing; parsing a text gives the port. -/
import Derived.Test.YtkgfinhepbipeaaDoorDigNum
import Derived.Test.YtkgfinhepbipeaaDoorNamListMath
namespace Go.Proofs.YtkgfinhepbipeaaDoor
namespace P16
open Nw Dg
set_option linter.unusedVariables false
/-- A text at each byte c; acc stands ahead of it. -/
def cutA (c : UInt8) (acc : L8) : L8 → List L8
  | [] => [acc]
  | x :: r => if x = c then acc :: cutA c [] r else cutA c (acc ++ [x]) r
def cutL (c : UInt8) (l : L8) : List L8 := cutA c [] l
theorem cutA_free (c : UInt8) : ∀ (l acc : L8), c ∉ l → cutA c acc l = [acc ++ l]
  | [], acc, _ => by rw [cutA, List.append_nil]
  | x :: r, acc, h => by
    rw [cutA, if_neg (fun e => h (by rw [e]; exact List.mem_cons_self ..)), cutA_free c r _ fun e => h (List.mem_cons_of_mem _ e)]
    simp
theorem cutA_at (c : UInt8) : ∀ (a acc b : L8), c ∉ a → cutA c acc (a ++ c :: b) = (acc ++ a) :: cutA c [] b
  | [], acc, b, _ => by rw [List.nil_append, cutA, if_pos rfl, List.append_nil]
  | x :: a, acc, b, h => by
    rw [List.cons_append, cutA, if_neg (fun e => h (by rw [e]; exact List.mem_cons_self ..)), cutA_at c a _ b fun e => h (List.mem_cons_of_mem _ e)]
    simp
theorem cut_free {c : UInt8} {l : L8} (h : c ∉ l) : cutL c l = [l] := by unfold cutL; rw [cutA_free c l [] h, List.nil_append]
theorem cut_at {c : UInt8} {a b : L8} (h : c ∉ a) : cutL c (a ++ c :: b) = a :: cutL c b := by unfold cutL; rw [cutA_at c a [] b h, List.nil_append]
theorem cutA_len (c : UInt8) : ∀ (l acc : L8), (cutA c acc l).length ≤ l.length + 1
  | [], acc => by simp [cutA]
  | x :: r, acc => by
    rw [cutA, List.length_cons]
    split
    · have := cutA_len c r []; rw [List.length_cons]; omega
    · have := cutA_len c r (acc ++ [x]); omega
theorem cutA_ne (c : UInt8) (l acc : L8) : cutA c acc l ≠ [] := by
  induction l generalizing acc with
  | nil => simp [cutA]
  | cons x r ih =>
    rw [cutA]
    split
    · simp
    · exact ih _
/-- What the pieces are made of. -/
theorem cutA_mem (c : UInt8) : ∀ (l acc : L8) (x : UInt8), x ∈ l → x = c ∨ ∃ p ∈ cutA c acc l, x ∈ p
  | [], acc, x, h => by cases h
  | y :: r, acc, x, h => by
    rw [cutA]
    by_cases hy : y = c
    · rw [if_pos hy]
      rcases List.mem_cons.1 h with rfl | h
      · exact .inl hy
      · rcases cutA_mem c r [] x h with e | ⟨p, hp, hx⟩
        · exact .inl e
        · exact .inr ⟨p, List.mem_cons_of_mem _ hp, hx⟩
    · rw [if_neg hy]
      rcases List.mem_cons.1 h with rfl | h
      · right
        have key : ∀ (l acc : L8), x ∈ acc → ∃ p ∈ cutA c acc l, x ∈ p := by
          intro l
          induction l with
          | nil => intro acc ha; exact ⟨acc, by simp [cutA], ha⟩
          | cons z l ih =>
            intro acc ha
            rw [cutA]
            split
            · exact ⟨acc, List.mem_cons_self .., ha⟩
            · exact ih _ (List.mem_append_left _ ha)
        exact key r (acc ++ [x]) (by simp)
      · exact cutA_mem c r (acc ++ [y]) x h
/-- A number of at most m. -/
def okN (s : L8) (m : Int) : Bool := countE s m == 0
def addrB (s : L8) : Bool := decide ((cutL 46 s).length = 4) && (cutL 46 s).all fun x => okN x 255
/-- A port, in the order of its cells. -/
structure Po where
  host : L8
  out : Int
  inn : Int
  proto : L8
deriving DecidableEq
def tcpL : L8 := [116, 99, 112]
def udpL : L8 := [117, 100, 112]
def rightB (p : Po) : Bool := (decide (1 ≤ p.inn) && decide (p.inn ≤ 65535)) && (decide (0 ≤ p.out) && decide (p.out ≤ 65535)) && (decide (p.proto = tcpL) || decide (p.proto = udpL)) && (p.host.isEmpty || addrB p.host)
def bodyL (p : Po) : L8 := (if p.host = [] then [] else p.host ++ [58]) ++ (if 0 < p.out then textL p.out ++ [58] else if p.host = [] then [] else [58]) ++ textL p.inn
def textP (p : Po) : L8 := if rightB p = true then bodyL p ++ (if p.proto = udpL then 47 :: udpL else []) else []
/-- The protocol that a text names at its end, and what stands ahead. -/
def sufP (s : L8) : L8 × L8 :=
  if 4 < s.length ∧ s.drop (s.length - 4) = 47 :: tcpL then (tcpL, s.take (s.length - 4))
  else if 4 < s.length ∧ s.drop (s.length - 4) = 47 :: udpL then (udpL, s.take (s.length - 4)) else (tcpL, s)
def finP (h : L8) (o : Int) (i pr : L8) : Option Po := if okN i 65535 = true ∧ rightB ⟨h, o, countN i 65535, pr⟩ = true then some ⟨h, o, countN i 65535, pr⟩ else none
def okO (o : L8) : Bool := okN o 65535 && decide (countN o 65535 ≠ 0)
def prsL (pr : L8) : List L8 → Option Po
  | [i] => finP [] 0 i pr
  | [o, i] => if okO o = true then finP [] (countN o 65535) i pr else none
  | [h, o, i] => if h = [] then none else if o = [] then finP h 0 i pr else if okO o = true then finP h (countN o 65535) i pr else none
  | _ => none
def prsP (s : L8) : Option Po := prsL (sufP s).1 (cutL 58 (sufP s).2)
theorem finP_right {h : L8} {o : Int} {i pr : L8} {p : Po} (e : finP h o i pr = some p) : rightB p = true := by
  unfold finP at e
  split at e
  · rename_i hh; cases e; exact hh.2
  · cases e
/-- A parsed port may be. -/
theorem prs_right {s : L8} {p : Po} (e : prsP s = some p) : rightB p = true := by
  unfold prsP prsL at e
  split at e
  · exact finP_right e
  · split at e
    · exact finP_right e
    · cases e
  · split at e
    · cases e
    · split at e
      · exact finP_right e
      · split at e
        · exact finP_right e
        · cases e
  · cases e
/- ### Texts are parsed back. -/
theorem text_digs {n : Int} (h : 0 ≤ n) : textL n = dgw 1 n.natAbs := by unfold textL; rw [if_neg (by omega)]
theorem text_count {n m : Int} (h : 0 ≤ n) (hm : n ≤ m) : okN (textL n) m = true ∧ countN (textL n) m = n := by
  have hw : whole (textL n) = true := by rw [text_digs h]; exact whole_dgw _
  have hv : (val (textL n) : Int) = n := by rw [text_digs h, val_dgw]; omega
  have hm0 : ¬ m < 0 := by omega
  have hle : ((val (textL n) : Nat) : Int) ≤ m := by rw [hv]; exact hm
  unfold okN countE countN
  rw [if_neg hm0, if_neg hm0, if_pos hw, if_pos hw, valE_ok hle, valN_ok hle]
  exact ⟨rfl, hv⟩
theorem text_no {n : Int} (h : 0 ≤ n) {c : UInt8} (hc : isDig c = false) : c ∉ textL n := by
  rw [text_digs h]
  intro hm
  have := digs_dgw 1 n.natAbs
  unfold digs at this
  rw [List.all_eq_true] at this
  rw [this c hm] at hc
  cases hc
theorem text_ne {n : Int} (h : 0 ≤ n) : textL n ≠ [] := by rw [text_digs h]; exact dgw_ne _
theorem okN_digs {s : L8} {m : Int} (hm : 0 ≤ m) (h : okN s m = true) : digs s = true := by
  unfold okN countE at h
  rw [if_neg (by omega)] at h
  split at h
  · rename_i hw; exact digs_of_whole hw
  · cases h
theorem addr_no {s : L8} (h : addrB s = true) {c : UInt8} (h46 : c ≠ 46) (hc : isDig c = false) : c ∉ s := by
  intro hm
  unfold addrB at h
  rw [Bool.and_eq_true, List.all_eq_true] at h
  rcases cutA_mem 46 s [] c hm with e | ⟨p, hp, hx⟩
  · exact h46 e
  · have := okN_digs (by decide) (h.2 p hp)
    unfold digs at this
    rw [List.all_eq_true] at this
    rw [this c hx] at hc
    cases hc
theorem right_facts {p : Po} (h : rightB p = true) : 1 ≤ p.inn ∧ p.inn ≤ 65535 ∧ 0 ≤ p.out ∧ p.out ≤ 65535 ∧ (p.proto = tcpL ∨ p.proto = udpL) ∧ (p.host = [] ∨ addrB p.host = true) := by
  unfold rightB at h
  simp only [Bool.and_eq_true, Bool.or_eq_true, decide_eq_true_eq, List.isEmpty_iff] at h
  exact ⟨h.1.1.1.1, h.1.1.1.2, h.1.1.2.1, h.1.1.2.2, h.1.2, h.2⟩
theorem okO_text {n : Int} (h : 0 < n) (hm : n ≤ 65535) : okO (textL n) = true ∧ countN (textL n) 65535 = n := by
  obtain ⟨h1, h2⟩ := text_count (m := 65535) (by omega : 0 ≤ n) hm
  unfold okO
  rw [h1, h2]
  exact ⟨by simp; omega, rfl⟩
theorem prs_body {p : Po} (h : rightB p = true) : prsL p.proto (cutL 58 (bodyL p)) = some p := by
  obtain ⟨h1, h2, h3, h4, h5, h6⟩ := right_facts h
  have d58 : isDig 58 = false := by decide
  have hin := text_no (n := p.inn) (by omega) d58
  obtain ⟨hc1, hc2⟩ := text_count (n := p.inn) (m := 65535) (by omega) h2
  have hfin : ∀ (ho : L8) (o : Int), ho = p.host → o = p.out → finP ho o (textL p.inn) p.proto = some p := by
    rintro ho o rfl rfl
    unfold finP
    rw [hc2]
    exact if_pos ⟨hc1, h⟩
  unfold bodyL
  by_cases hh : p.host = []
  · rw [if_pos hh, List.nil_append, if_pos hh]
    by_cases ho : 0 < p.out
    · rw [if_pos ho, List.append_assoc, List.singleton_append, cut_at (text_no (by omega) d58), cut_free hin]
      obtain ⟨k1, k2⟩ := okO_text ho h4
      show (if okO (textL p.out) = true then _ else _) = _
      rw [if_pos k1, k2]
      exact hfin _ _ hh.symm rfl
    · rw [if_neg ho, List.nil_append, cut_free hin]
      exact hfin _ _ hh.symm (by omega)
  · have hA : addrB p.host = true := h6.resolve_left hh
    rw [if_neg hh, if_neg hh]
    by_cases ho : 0 < p.out
    · have e : (p.host ++ [58] ++ (if 0 < p.out then textL p.out ++ [58] else [58]) ++ textL p.inn) = p.host ++ 58 :: (textL p.out ++ 58 :: textL p.inn) := by rw [if_pos ho]; simp
      rw [e, cut_at (addr_no hA (by decide) d58), cut_at (text_no (by omega) d58), cut_free hin]
      obtain ⟨k1, k2⟩ := okO_text ho h4
      show (if p.host = [] then none else if textL p.out = [] then _ else if okO (textL p.out) = true then _ else _) = _
      rw [if_neg hh, if_neg (text_ne (by omega)), if_pos k1, k2]
      exact hfin _ _ rfl rfl
    · have e : (p.host ++ [58] ++ (if 0 < p.out then textL p.out ++ [58] else [58]) ++ textL p.inn) = p.host ++ 58 :: ([] ++ 58 :: textL p.inn) := by rw [if_neg ho]; simp
      rw [e, cut_at (addr_no hA (by decide) d58), cut_at (by simp), cut_free hin]
      show (if p.host = [] then none else if ([] : L8) = [] then _ else _) = _
      rw [if_neg hh, if_pos rfl]
      exact hfin _ _ rfl (by omega)
theorem body_no {p : Po} (h : rightB p = true) {c : UInt8} (h46 : c ≠ 46) (h58 : c ≠ 58) (hc : isDig c = false) : c ∉ bodyL p := by
  obtain ⟨h1, h2, h3, h4, h5, h6⟩ := right_facts h
  have hi := text_no (n := p.inn) (by omega) hc
  have ho := text_no (n := p.out) (by omega) hc
  have hh : c ∉ p.host := by
    rcases h6 with e | e
    · rw [e]; simp
    · exact addr_no e h46 hc
  unfold bodyL
  simp only [List.mem_append, not_or]
  refine ⟨⟨?_, ?_⟩, hi⟩
  · split <;> simp [hh, h58]
  · split
    · simp [ho, h58]
    · split <;> simp [h58]
theorem suf_tcp {b : L8} (h : (47 : UInt8) ∉ b) : sufP b = (tcpL, b) := by
  unfold sufP
  have key : ∀ x : L8, ¬ (4 < b.length ∧ b.drop (b.length - 4) = 47 :: x) := by
    rintro x ⟨_, e⟩
    exact h (List.mem_of_mem_drop (by rw [e]; exact List.mem_cons_self ..))
  rw [if_neg (key _), if_neg (key _)]
theorem suf_udp {b : L8} (hb : b ≠ []) : sufP (b ++ 47 :: udpL) = (udpL, b) := by
  have hl : (b ++ 47 :: udpL).length - 4 = b.length := by rw [List.length_append]; rfl
  have hlt : 4 < (b ++ 47 :: udpL).length := by
    rw [List.length_append]
    have := List.length_pos_iff.2 hb
    show 4 < b.length + 4; omega
  unfold sufP
  rw [hl, List.drop_left, List.take_left, if_neg (fun h => absurd h.2 (by decide)), if_pos ⟨hlt, rfl⟩]
/-- The text of a port is parsed as the port. -/
theorem prs_text {p : Po} (h : rightB p = true) : prsP (textP p) = some p := by
  have hb := prs_body h
  obtain ⟨h1, h2, h3, h4, h5, h6⟩ := right_facts h
  have hne : bodyL p ≠ [] := by
    unfold bodyL
    intro e
    exact text_ne (n := p.inn) (by omega) (List.append_eq_nil_iff.1 e).2
  unfold textP prsP
  rw [if_pos h]
  rcases h5 with e | e
  · rw [if_neg (by rw [e]; decide), List.append_nil, suf_tcp (body_no h (by decide) (by decide) (by decide))]
    rw [e] at hb; exact hb
  · rw [if_pos e, suf_udp hne]
    rw [e] at hb; exact hb
theorem prs_empty : prsP [] = none := by decide
theorem suf_len (s : L8) : (sufP s).2.length ≤ s.length := by
  unfold sufP
  split
  · show (List.take _ s).length ≤ _; rw [List.length_take]; omega
  · split
    · show (List.take _ s).length ≤ _; rw [List.length_take]; omega
    · exact Nat.le_refl _
theorem cutA_len2 (c : UInt8) : ∀ (l acc p : L8), p ∈ cutA c acc l → p.length ≤ acc.length + l.length
  | [], acc, p, h => by
    rw [cutA] at h
    obtain rfl := List.mem_singleton.1 h
    simp
  | x :: r, acc, p, h => by
    rw [cutA] at h
    split at h
    · rcases List.mem_cons.1 h with rfl | h
      · omega
      · have := cutA_len2 c r [] p h; rw [List.length_cons]; simp at this; omega
    · have := cutA_len2 c r _ p h; rw [List.length_append, List.length_singleton] at this; rw [List.length_cons]; omega
theorem finP_host {h : L8} {o : Int} {i pr : L8} {p : Po} (e : finP h o i pr = some p) : p.host = h := by
  unfold finP at e
  split at e
  · cases e; rfl
  · cases e
/-- A parsed host is no longer than the text. -/
theorem prs_len {s : L8} {p : Po} (e : prsP s = some p) : p.host.length ≤ s.length := by
  unfold prsP prsL at e
  have hs := suf_len s
  split at e
  · rw [finP_host e]; exact Nat.zero_le _
  · split at e
    · rw [finP_host e]; exact Nat.zero_le _
    · cases e
  · rename_i h o i hc
    have hm : h.length ≤ (sufP s).2.length := by
      have := cutA_len2 58 (sufP s).2 [] h (by show h ∈ cutL 58 _; rw [hc]; exact List.mem_cons_self ..)
      simpa using this
    split at e
    · cases e
    · split at e
      · rw [finP_host e]; omega
      · split at e
        · rw [finP_host e]; omega
        · cases e
  · cases e
theorem prs_host {s h pr : L8} {o i : Int} {n : Nat} (e : prsP s = some ⟨h, o, i, pr⟩) (hn : s.length ≤ n) : h.length ≤ n := Nat.le_trans (prs_len e) hn
theorem textL_len {n : Int} (h : 0 ≤ n) (hm : n ≤ 65535) : (textL n).length ≤ 6 := by
  rw [text_digs h]
  have h1 : val (dgw 1 n.natAbs) = n.natAbs := val_dgw _ _
  have hw := whole_dgw n.natAbs
  by_cases hl : (dgw 1 n.natAbs).length ≤ 6
  · exact hl
  · have := val_long hw 5 (by omega)
    omega
theorem text_len {p : Po} (h : rightB p = true) (hh : p.host.length ≤ 100) : (textP p).length ≤ 100000 := by
  obtain ⟨h1, h2, h3, h4, h5, h6⟩ := right_facts h
  have a1 := textL_len (n := p.inn) (by omega) h2
  have a2 := textL_len h3 h4
  have u : (47 :: udpL : L8).length = 4 := rfl
  unfold textP bodyL
  rw [if_pos h, List.length_append, List.length_append, List.length_append]
  have b1 : (if p.host = [] then [] else p.host ++ [58]).length ≤ 101 := by
    split
    · exact Nat.zero_le _
    · rw [List.length_append]; exact Nat.succ_le_succ hh
  have b2 : (if 0 < p.out then textL p.out ++ [58] else if p.host = [] then [] else [58]).length ≤ 7 := by
    split
    · rw [List.length_append]; exact Nat.succ_le_succ a2
    · split <;> decide
  have b3 : (if p.proto = udpL then (47 :: udpL : L8) else []).length ≤ 4 := by
    split
    · exact Nat.le_of_eq u
    · exact Nat.zero_le _
  omega
end P16
end Go.Proofs.YtkgfinhepbipeaaDoor
